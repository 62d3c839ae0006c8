/-
  The walk of spec.Record.
-/
import Derived.Test.YthomlchbgcjcfaaGreatDoorKbL
namespace Go.Proofs.YthomlchbgcjcfaaGreatDoor
open Go.RowKit

set_option maxHeartbeats 25600000 in
set_option maxRecDepth 100000 in
open Classical in
theorem specRecordN (n : Nat) (vn vk : Value) (nms : List ByteArray) (ks : List Ty) (w : World) (hT : Texts w vn nms) (hrow : RowAt w (TyAt w n) vk ks) (hb : nms.length + Ty.textsBulk nms + rowBulk n ks ≤ 1048576) :
    Calls Tryz.prog 42 #[vn, vk] w fun e w' => ∃ (l : Lay) (t : Ty) (ok : Bool), e = .returned (.tuple #[.agg (cellsK t l).toArray, .bool ok]) ∧ RecAns n nms ks t ok ∧ (LayAt w' (n + 1) l t ∧ ∀ b ∈ Lay.blocks (n + 1) l, w.heap.size ≤ b) ∧ Below w.heap.size w w' ∧ (t.kids = [] → l.vk = .slice none 0 0) := by
  obtain ⟨i0, hi0, hz0, hz1, hz2⟩ := info_parts Tryz.infoTypeT
  obtain ⟨j0, hj0, hy0, hy1, hy2⟩ := info_parts Tryz.infoString
  obtain ⟨C, ak, ck, rfl, hC, hCc⟩ := choose_cells hrow
  obtain ⟨an, cn, rfl, hnc⟩ := textsOpen hT
  have hlen : ks.length ≤ 1048576 := by unfold rowBulk at hb; omega
  by_cases hne : nms.length = ks.length
  · have hneI : ((nms.length : Int) == (ks.length : Int)) = true := by rw [beq_iff_eq]; omega
    have hneB : ((nms.length : Int) != (ks.length : Int)) = false := by rw [bne, hneI]; rfl
    have hlnm : nms.length ≤ 1048576 := by omega
    have hBW1 : Below w.heap.size w ((w.alloc (.cells #[.int .i64 0, .string ⟨#[]⟩, .slice none 0 0, .slice none 0 0] 28)).alloc (.cells #[.int .i64 5, .string ⟨#[]⟩, .slice none 0 0, .slice none 0 0] 28)) := ((Below.refl _ _).alloc (Nat.le_refl _) _).alloc (by simp) _
    have hr1 : ((w.alloc (.cells #[.int .i64 0, .string ⟨#[]⟩, .slice none 0 0, .slice none 0 0] 28)).alloc (.cells #[.int .i64 5, .string ⟨#[]⟩, .slice none 0 0, .slice none 0 0] 28)).heap[w.heap.size]? = some (.cells #[.int .i64 0, .string ⟨#[]⟩, .slice none 0 0, .slice none 0 0] 28) := heap_first w _ _
    have ht1 : ((w.alloc (.cells #[.int .i64 0, .string ⟨#[]⟩, .slice none 0 0, .slice none 0 0] 28)).alloc (.cells #[.int .i64 5, .string ⟨#[]⟩, .slice none 0 0, .slice none 0 0] 28)).heap[w.heap.size + 1]? = some (.cells #[.int .i64 5, .string ⟨#[]⟩, .slice none 0 0, .slice none 0 0] 28) := heap_second w _ _
    have hW1z : ((w.alloc (.cells #[.int .i64 0, .string ⟨#[]⟩, .slice none 0 0, .slice none 0 0] 28)).alloc (.cells #[.int .i64 5, .string ⟨#[]⟩, .slice none 0 0, .slice none 0 0] 28)).heap.size = w.heap.size + 1 + 1 := by simp
    have HNC : Hid (type_of% hnc) := hnc
    have HCC : Hid (type_of% hCc) := hCc
    have HCA : Hid (type_of% hC) := hC
    have HBK : Hid (type_of% hb) := hb
    have HNE : Hid (nms.length = ks.length) := hne
    have HKS : Hid (∀ q ∈ ks, Ty.sized n q) := row_sized hrow
    clear hC hCc hnc hT hrow hb hne
    go_enter Tryz.func42, Tryz.ntmps42
    go_wp2_with fail
    generalize ((w.alloc (.cells #[.int .i64 0, .string ⟨#[]⟩, .slice none 0 0, .slice none 0 0] 28)).alloc (.cells #[.int .i64 5, .string ⟨#[]⟩, .slice none 0 0, .slice none 0 0] 28)) = W1 at *
    have hzW1 : w.heap.size + 1 < W1.heap.size := by omega
    have hM0 : RecM W1 W1 (w.heap.size + 1) n nms ks 0 [] (.slice none 0 0) (.slice none 0 0) [] := ⟨ht1, World.ownsRow_nil _ _ _ _, World.ownsRow_nil _ _ _ _, ⟨rfl, rfl⟩, (fun j h1 _ => absurd h1 (by simp)), OnlyL.refl _ _, hzW1, List.Perm.refl _, (fun i j _ hj => absurd hj (by simp)), fun _ => ⟨rfl, rfl⟩⟩
    clear ht1 hW1z
    go_loopw [7] (fun i wr => ∃ (k : Nat) (qs : List Nat) (vN vK : Value) (ls : List Lay), k ≤ nms.length ∧ i = .int .i64 k ∧ RecM W1 wr (w.heap.size + 1) n nms ks k qs vN vK ls) (fun i _ => nms.length - (intOf i).toNat)
    case atStart => exact ⟨0, [], _, _, [], Nat.zero_le _, rfl, hM0⟩
    case round =>
      obtain ⟨k, qs, vN, vK, ls, hk, rfl, hM⟩ := hrel
      clear hM0
      have hzr := hM.only.size
      have hbw : Below w.heap.size w wr := hBW1.trans (hM.only.below (fun x hx => by simp only [List.mem_singleton] at hx; omega) (by omega))
      obtain ⟨aN, cN, hvN⟩ := slice_ownM hM.names
      obtain ⟨aK, cK, hvK⟩ := slice_ownM hM.kids
      subst hvN hvK
      have HM : Hid (type_of% hM) := hM
      obtain ⟨⟨tc0, tc1, tc2, tc3⟩, tf⟩ := block4 hM.box
      by_cases hlt : k < nms.length
      · obtain ⟨bn, on, rfl, n0⟩ := HNC.out k hlt
        have hbn : bn < w.heap.size := World.block_lt_of_cell? w ⟨bn, on + k, none⟩ n0
        have HQ : Hid (∀ j (hj : j < k), ∃ g, aN = some ⟨g, 0, none⟩ ∧ g < wr.heap.size ∧ wr.cell? ⟨g, j, none⟩ = some (.string (nameAt nms (qs.getD j 0)))) := fun j hj => by
          rcases hM.names.2 with ⟨_, h0⟩ | ⟨g, cap, cur, hv, hg, hh, _⟩
          · omega
          · simp only [Value.slice.injEq, true_and] at hv
            have ho := hM.names
            rw [hv.1] at ho
            refine ⟨g, hv.1, (Array.getElem?_eq_some_iff.1 hh).1, ?_⟩
            have hj2 : j < qs.length := by have := hM.len.2; omega
            rw [ho.cellAt j (by omega), strV_get _ j (by rw [List.length_map]; exact hj2), List.getElem_map]
            simp [List.getD, hj2]
        clear hM tf
        obtain ⟨U, hU⟩ : ∃ U : World, U = wr := ⟨wr, rfl⟩
        subst hU
        go_wp2_with fail
        go_loopw [8] (fun x wx => ∃ a : Nat, a ≤ k ∧ x = .int .i64 a ∧ (∀ j, j < a → lessB (nameAt nms (qs.getD j 0)) nms[k]) ∧ Below U.heap.size U wx) (fun x _ => k - (intOf x).toNat)
        case atStart => exact ⟨0, Nat.zero_le _, rfl, fun j h => absurd h (by omega), Below.refl _ _⟩
        case round =>
          obtain ⟨a, ha, rfl, hall, hbx⟩ := hrel
          have HALL : Hid (type_of% hall) := hall
          have lt1 : w.heap.size + 1 < U.heap.size := by omega
          have x2 := (hbx.cell (p := ⟨w.heap.size + 1, 2, none⟩) lt1).trans tc2
          have hbwx : Below w.heap.size w wr := hbw.trans (hbx.mono (by omega))
          have N0 := (hbwx.cell (p := ⟨bn, on + k, none⟩) hbn).trans n0
          have k0 : (0 : Int) ≤ (k : Int) := by omega
          have k1 : (k : Int) < (nms.length : Int) := by omega
          have a0 : (0 : Int) ≤ (a : Int) := by omega
          clear hall
          by_cases hak : a < k
          · obtain ⟨g, hgN, hgl, q0⟩ := HQ.out a hak
            subst hgN
            have Q0 := (hbx.cell (p := ⟨g, a, none⟩) hgl).trans q0
            have a1 : (a : Int) < (k : Int) := by omega
            by_cases hls : lessB (nameAt nms (qs.getD a 0)) nms[k]
            · have HA2 : Hid (∀ j, j < a + 1 → lessB (nameAt nms (qs.getD j 0)) nms[k]) := fun j hj => by
                by_cases c : j = a
                · subst c; exact hls
                · exact HALL.out j (by omega)
              have hcmp := less_yes hls
              have R2 : ∀ q, Below U.heap.size U (wr.drewN q) := fun q => below_drewN hbx q
              clear hls HALL HM HQ q0 n0 tc0 tc1 tc2 tc3
              generalize nameAt nms (qs.getD a 0) = y at *
              generalize nms[k] = z at *
              go_wp2_with fail
              go_quiet (fail)
              go_wp2_with fail
              go_roundw
              case rel => exact ⟨a + 1, by omega, by go_num, HA2.out, R2 _⟩
              case measure => simp [intOf]; omega
            · have hcmp := less_no hls
              have hlq : qs.length = k := HM.out.len.2
              have hzk : nameAt nms k = nms[k] := nameAt_eq nms k hlt
              have hqa : qs.getD a 0 = qs[a]'(by omega) := by simp [List.getD, show a < qs.length from by omega]
              have HORD : Hid ((∀ j (h : j < qs.length), j < a → lessB (nameAt nms qs[j]) (nameAt nms k)) ∧ ∀ j (h : j < qs.length), a ≤ j → ¬ lessB (nameAt nms qs[j]) (nameAt nms k)) := by
                rw [hzk]
                refine ⟨fun j h hj => ?_, fun j h hj => ?_⟩
                · have := HALL.out j hj
                  rwa [show qs.getD j 0 = qs[j] from by simp [List.getD, h]] at this
                · rw [hqa] at hls
                  by_cases c : j = a
                  · subst c; exact hls
                  · have h3 := HM.out.ord a j (by omega) h
                    intro q
                    by_cases d : lessB nms[k] (nameAt nms (qs[a]'(by omega)))
                    · exact h3 (less_trans q d)
                    · rw [← less_total hls d] at q; exact h3 q
              have HZK : Hid (nameAt nms k = nms[k]) := hzk
              clear hzk hqa hlq
              generalize hy : nameAt nms (qs.getD a 0) = y at *
              generalize hz : nms[k] = z at *
              go_wp2_with fail
              go_quiet (fail)
              go_wp2_with fail
              have hbX : ∀ q, Below U.heap.size U (wr.drewN q) := fun q => below_drewN hbx q
              have Y2 : ∀ q, (wr.drewN q).cell? ⟨w.heap.size + 1, 2, none⟩ = some (.slice (some ⟨g, 0, none⟩) k cN) := fun q => ((hbX q).cell (p := ⟨w.heap.size + 1, 2, none⟩) lt1).trans tc2
              have YN : ∀ q, (wr.drewN q).cell? ⟨bn, on + k, none⟩ = some (.string z) := fun q => N0
              clear x2 N0 Q0 hcmp HALL HQ q0 n0 tc0 tc1 tc2 tc3
              generalize hX : wr.drewN _ = X at *
              have hS0 : X.cell? ⟨w.heap.size + 1, 2, none⟩ = some (.slice (some ⟨g, 0, none⟩) k cN) ∧ X.cell? ⟨bn, on + k, none⟩ = some (.string z) := ⟨hX ▸ Y2 _, hX ▸ YN _⟩
              have hUX : Below U.heap.size U X := hX ▸ hbX _
              have oX := kept_belowT HM.out.names hUX
              have hWX : W1.heap.size ≤ X.heap.size := Nat.le_trans HM.out.only.size hUX.size
              have hkc : k ≤ cN := own_cap oX
              have ac : (a : Int) ≤ (cN : Int) := by omega
              have akI : (a : Int) ≤ (k : Int) := by omega
              have kcI : (k : Int) ≤ (cN : Int) := by omega
              refine wp_region_noPanic ?_
              refine wp_region_till (fun w' => w'.cell? ⟨w.heap.size + 1, 2, none⟩ = some (.slice (some ⟨g, 0, none⟩) k cN) ∧ w'.cell? ⟨bn, on + k, none⟩ = some (.string z)) 18 (by kernel_rfl) ?_
              refine wpTill.take (i := 1) (v := ?_) rfl rfl (by kernel_rfl) (by kernel_rfl) (by kernel_rfl) (by kernel_rfl) (fun _ _ _ h => h) (Or.inl ⟨by rfl, ?_⟩) hS0 ?_
              rotate_left
              · intro w9 hs9
                obtain ⟨s1, s2⟩ := hs9
                go_simp
                try rfl
              refine wpTill.take (i := 2) (v := ?_) rfl rfl (by kernel_rfl) (by kernel_rfl) (by kernel_rfl) (by kernel_rfl) (fun _ _ _ h => h) (Or.inl ⟨by rfl, ?_⟩) hS0 ?_
              rotate_left
              · intro w9 hs9
                obtain ⟨s1, s2⟩ := hs9
                go_simp
                try rfl
              refine wpTill.take (i := 3) (v := ?_) rfl rfl (by kernel_rfl) (by kernel_rfl) (by kernel_rfl) (by kernel_rfl) (fun _ _ _ h => h) (Or.inl ⟨by rfl, ?_⟩) hS0 ?_
              rotate_left
              · intro w9 hs9
                obtain ⟨s1, s2⟩ := hs9
                go_simp
                try rfl
              refine wpTill.take (i := 4) (v := ?_) rfl rfl (by kernel_rfl) (by kernel_rfl) (by kernel_rfl) (by kernel_rfl) (fun _ _ _ h => h) (Or.inl ⟨by rfl, ?_⟩) hS0 ?_
              rotate_left
              · intro w9 hs9
                obtain ⟨s1, s2⟩ := hs9
                go_simp
                try rfl
              refine wpTill.take (i := 6) (v := ?_) rfl rfl (by kernel_rfl) (by kernel_rfl) (by kernel_rfl) (by kernel_rfl) (fun _ _ _ h => h) (Or.inl ⟨by rfl, ?_⟩) hS0 ?_
              rotate_left
              · intro w9 hs9
                obtain ⟨s1, s2⟩ := hs9
                go_simp
                try rfl
              refine wpTill.take (i := 7) (v := ?_) rfl rfl (by kernel_rfl) (by kernel_rfl) (by kernel_rfl) (by kernel_rfl) (fun _ _ _ h => h) (Or.inl ⟨by rfl, ?_⟩) hS0 ?_
              rotate_left
              · intro w9 hs9
                obtain ⟨s1, s2⟩ := hs9
                go_simp
                try rfl
              refine wpTill.take (i := 8) (v := ?_) rfl rfl (by kernel_rfl) (by kernel_rfl) (by kernel_rfl) (by kernel_rfl) (fun _ _ _ h => h) (Or.inl ⟨by rfl, ?_⟩) hS0 ?_
              rotate_left
              · intro w9 hs9
                obtain ⟨s1, s2⟩ := hs9
                go_simp
                try rfl
              refine wpTill.take (i := 9) (v := ?_) rfl rfl (by kernel_rfl) (by kernel_rfl) (by kernel_rfl) (by kernel_rfl) (fun _ _ _ h => h) (Or.inl ⟨by rfl, ?_⟩) hS0 ?_
              rotate_left
              · intro w9 hs9
                obtain ⟨s1, s2⟩ := hs9
                go_simp
                try rfl
              refine wpTill.take (i := 12) (v := ?_) rfl rfl (by kernel_rfl) (by kernel_rfl) (by kernel_rfl) (by kernel_rfl) (fun _ _ _ h => h) (Or.inl ⟨by rfl, ?_⟩) hS0 ?_
              rotate_left
              · intro w9 hs9
                obtain ⟨s1, s2⟩ := hs9
                go_simp
                try rfl
              refine wpTill.take (i := 13) (v := ?_) rfl rfl (by kernel_rfl) (by kernel_rfl) (by kernel_rfl) (by kernel_rfl) (fun _ _ _ h => h) (Or.inl ⟨by rfl, ?_⟩) hS0 ?_
              rotate_left
              · intro w9 hs9
                obtain ⟨s1, s2⟩ := hs9
                go_simp
                try rfl
              refine wpTill.take (i := 14) (v := ?_) rfl rfl (by kernel_rfl) (by kernel_rfl) (by kernel_rfl) (by kernel_rfl) (fun _ _ _ h => h) (Or.inl ⟨by rfl, ?_⟩) hS0 ?_
              rotate_left
              · intro w9 hs9
                obtain ⟨s1, s2⟩ := hs9
                go_simp
                try rfl
              refine wpTill.take (i := 15) (v := ?_) rfl rfl (by kernel_rfl) (by kernel_rfl) (by kernel_rfl) (by kernel_rfl) (fun _ _ _ h => h) (Or.inl ⟨by rfl, ?_⟩) hS0 ?_
              rotate_left
              · intro w9 hs9
                obtain ⟨s1, s2⟩ := hs9
                go_simp
                try rfl
              have HSX : Hid (∀ Z : World, Below X.heap.size X Z → Z.cell? ⟨w.heap.size + 1, 2, none⟩ = some (.slice (some ⟨g, 0, none⟩) k cN) ∧ Z.cell? ⟨bn, on + k, none⟩ = some (.string z)) := fun Z hZ => ⟨(hZ.cell (p := ⟨w.heap.size + 1, 2, none⟩) (World.block_lt_of_cell? X _ hS0.1)).trans hS0.1, (hZ.cell (p := ⟨bn, on + k, none⟩) (World.block_lt_of_cell? X _ hS0.2)).trans hS0.2⟩
              have HN1 : Hid (∀ Z : World, Below X.heap.size X Z → ∀ j u, ((strV (qs.map (nameAt nms))).take a)[j]? = some u → Z.cell? ((⟨g, 0, none⟩ : Addr).add j) = some u) := fun Z hZ => own_take oX hZ a
              obtain ⟨D, hD, HN2⟩ : ∃ D : Addr, (if cN = a then some (⟨g, 0, none⟩ : Addr) else some ⟨g, a, none⟩) = some D ∧ Hid (∀ Z : World, Below X.heap.size X Z → ∀ j u, ((strV (qs.map (nameAt nms))).drop a)[j]? = some u → Z.cell? (D.add j) = some u) := by
                by_cases c : cN = a
                · refine ⟨_, if_pos c, fun Z hZ j u hu => ?_⟩
                  have := (List.getElem?_eq_some_iff.1 hu).1
                  have := oX.1
                  rw [List.length_drop] at *
                  omega
                · exact ⟨_, if_neg c, fun Z hZ => own_drop oX hZ a⟩
              have hl1 : ((strV (qs.map (nameAt nms))).take a).length = a * 1 := by have := oX.1; rw [List.length_take]; omega
              have hl2 : ((strV (qs.map (nameAt nms))).drop a).length = (k - a) * 1 := by have := oX.1; rw [List.length_drop]; omega
              have h11 : ∀ u ∈ (strV (qs.map (nameAt nms))).take a, u.oneCell' = true := fun u hu => strV_one _ u (List.mem_of_mem_take hu)
              have h12 : ∀ u ∈ (strV (qs.map (nameAt nms))).drop a, u.oneCell' = true := fun u hu => strV_one _ u (List.mem_of_mem_drop hu)
              go_simp
              refine till_kont 41 46 51 52 57 58 (fun v Y => ∃ (aa : Option Addr) (cc : Nat), v = .slice aa (k + 1) cc ∧ Y.ownsRow X.heap.size 9 1 (.slice aa (k + 1) cc) (k + 1) ((strV (qs.map (nameAt nms))).take a ++ [.string z] ++ (strV (qs.map (nameAt nms))).drop a) ∧ Y.heap[w.heap.size + 1]? = some (.cells #[.int .i64 5, .string ⟨#[]⟩, .slice aa (k + 1) cc, .slice aK k cK] 28 (0, 0)) ∧ OnlyL [w.heap.size + 1] X Y) ?_ ?_
              · intro m1 m2 m3 m4 m5 m6 Y hF
                obtain ⟨aa, cc, rfl, oY, bY, onY⟩ := hF
                obtain ⟨⟨_, _, _, y3⟩, _⟩ := block4 bY
                have onU : OnlyL [w.heap.size + 1] U Y := (OnlyL.of_below hUX).trans onY
                obtain ⟨gK, rfl⟩ : ∃ gK, aK = some (⟨gK, 0, none⟩ : Addr) := own_someQ HM.out.kids (by omega)
                have oK : Y.ownsRow W1.heap.size 28 4 (.slice (some ⟨gK, 0, none⟩) k cK) k (flatK (qs.map (kidAt ks)) ls) := owns_onlyL HM.out.kids onU (fun x hx => by simp only [List.mem_singleton] at hx; omega)
                have hkc2 : k ≤ cK := own_cap oK
                have acK : (a : Int) ≤ (cK : Int) := by omega
                have kcK : (k : Int) ≤ (cK : Int) := by omega
                have hkl : k < ks.length := by have := HNE.out; omega
                have kl0 : (k : Int) < (ks.length : Int) := by omega
                obtain ⟨bk, ok, rfl, hbk, hcl⟩ := HCC.out k hkl
                have hta := HCA.out k hkl
                obtain ⟨an2, ln2, cn2, ak2, lk2, ck2, ee⟩ := hta.shape
                have hbwY : Below w.heap.size w Y := (hbw.trans (hUX.mono (by omega))).trans (onY.below (fun x hx => by simp only [List.mem_singleton] at hx; omega) (by have := hUX.size; omega))
                have A0 : Y.cell? ⟨bk, ok + k * 4, none⟩ = some (.int .i64 (kidAt ks k).kind) := (hbwY.cell (p := ⟨bk, ok + k * 4, none⟩) hbk).trans (hcl 0 _ (by rw [ee]; rfl))
                have A1 : Y.cell? ⟨bk, ok + k * 4 + 1, none⟩ = some (.string (kidAt ks k).name) := (hbwY.cell (p := ⟨bk, ok + k * 4 + 1, none⟩) hbk).trans (hcl 1 _ (by rw [ee]; rfl))
                have A2 : Y.cell? ⟨bk, ok + k * 4 + 2, none⟩ = some (.slice an2 ln2 cn2) := (hbwY.cell (p := ⟨bk, ok + k * 4 + 2, none⟩) hbk).trans (hcl 2 _ (by rw [ee]; rfl))
                have A3 : Y.cell? ⟨bk, ok + k * 4 + 3, none⟩ = some (.slice ak2 lk2 ck2) := (hbwY.cell (p := ⟨bk, ok + k * 4 + 3, none⟩) hbk).trans (hcl 3 _ (by rw [ee]; rfl))
                have hbu : Ty.bulk n (kidAt ks k) ≤ 1048576 := by
                  have h1 := kid_bulk n ks k hkl
                  have h2 := HBK.out
                  rw [kidAt_eq ks k hkl]
                  unfold rowBulk at h2
                  omega
                have HCP : Hid (∀ wx : World, Below w.heap.size w wx → Calls Tryz.prog 35 #[.agg #[.int .i64 (kidAt ks k).kind, .string (kidAt ks k).name, .slice an2 ln2 cn2, .slice ak2 lk2 ck2]] wx fun e w' => ∃ (an3 : Option Addr) (cn3 : Nat) (ak3 : Option Addr) (ck3 : Nat), e = .returned (.agg #[.int .i64 (kidAt ks k).kind, .string (kidAt ks k).name, .slice an3 (kidAt ks k).names.length cn3, .slice ak3 (kidAt ks k).kids.length ck3]) ∧ (∃ l, cellsK (kidAt ks k) l = [.int .i64 (kidAt ks k).kind, .string (kidAt ks k).name, .slice an3 (kidAt ks k).names.length cn3, .slice ak3 (kidAt ks k).kids.length ck3] ∧ NewLay wx.heap.size w' n l (kidAt ks k)) ∧ Below wx.heap.size wx w') := fun wx hx => by
                  have := specCopy n (C k) (kidAt ks k) wx (hta.below hx) hbu
                  rw [ee] at this
                  refine this.mono ?_
                  rintro e w' ⟨l, rfl, hl, hb⟩
                  obtain ⟨an3, cn3, ak3, ck3, e3⟩ := lay_cellsN hl.1
                  exact ⟨an3, cn3, ak3, ck3, by rw [e3], ⟨l, e3, hl⟩, hb⟩
                have HYZ : Hid (W1.heap.size ≤ Y.heap.size ∧ w.heap.size ≤ Y.heap.size) := ⟨by have := onY.size; omega, hbwY.size⟩
                have hSY : Y.cell? ⟨w.heap.size + 1, 3, none⟩ = some (.slice (some ⟨gK, 0, none⟩) k cK) ∧ Y.cell? ⟨bk, ok + k * 4, none⟩ = some (.int .i64 (kidAt ks k).kind) ∧ Y.cell? ⟨bk, ok + k * 4 + 1, none⟩ = some (.string (kidAt ks k).name) ∧ Y.cell? ⟨bk, ok + k * 4 + 2, none⟩ = some (.slice an2 ln2 cn2) ∧ Y.cell? ⟨bk, ok + k * 4 + 3, none⟩ = some (.slice ak2 lk2 ck2) := ⟨y3, A0, A1, A2, A3⟩
                have HSY : Hid (∀ Z : World, Below Y.heap.size Y Z → Z.cell? ⟨w.heap.size + 1, 3, none⟩ = some (.slice (some ⟨gK, 0, none⟩) k cK) ∧ Z.cell? ⟨bk, ok + k * 4, none⟩ = some (.int .i64 (kidAt ks k).kind) ∧ Z.cell? ⟨bk, ok + k * 4 + 1, none⟩ = some (.string (kidAt ks k).name) ∧ Z.cell? ⟨bk, ok + k * 4 + 2, none⟩ = some (.slice an2 ln2 cn2) ∧ Z.cell? ⟨bk, ok + k * 4 + 3, none⟩ = some (.slice ak2 lk2 ck2)) := fun Z hZ => by
                  have hq : bk < Y.heap.size := World.block_lt_of_cell? Y _ A0
                  exact ⟨(hZ.cell (p := ⟨w.heap.size + 1, 3, none⟩) (World.block_lt_of_cell? Y _ y3)).trans y3, (hZ.cell (p := ⟨bk, ok + k * 4, none⟩) hq).trans A0, (hZ.cell (p := ⟨bk, ok + k * 4 + 1, none⟩) hq).trans A1, (hZ.cell (p := ⟨bk, ok + k * 4 + 2, none⟩) hq).trans A2, (hZ.cell (p := ⟨bk, ok + k * 4 + 3, none⟩) hq).trans A3⟩
                have hk40 : (0 : Int) ≤ (k : Int) := by omega
                have HK1 : Hid (∀ Z : World, Below Y.heap.size Y Z → ∀ j u, ((flatK (qs.map (kidAt ks)) ls).take (a * 4))[j]? = some u → Z.cell? ((⟨gK, 0, none⟩ : Addr).add j) = some u) := fun Z hZ => own_take oK hZ (a * 4)
                obtain ⟨D2, hD2, HK2⟩ : ∃ D2 : Addr, (if cK = a then some (⟨gK, 0, none⟩ : Addr) else some ⟨gK, a * 4, none⟩) = some D2 ∧ Hid (∀ Z : World, Below Y.heap.size Y Z → ∀ j u, ((flatK (qs.map (kidAt ks)) ls).drop (a * 4))[j]? = some u → Z.cell? (D2.add j) = some u) := by
                  by_cases c : cK = a
                  · refine ⟨_, if_pos c, fun Z hZ j u hu => ?_⟩
                    have := (List.getElem?_eq_some_iff.1 hu).1
                    have := oK.1
                    rw [List.length_drop] at *
                    omega
                  · exact ⟨_, if_neg c, fun Z hZ => own_drop oK hZ (a * 4)⟩
                have kl1 : ((flatK (qs.map (kidAt ks)) ls).take (a * 4)).length = a * 4 := by have := oK.1; rw [List.length_take]; omega
                have kl2 : ((flatK (qs.map (kidAt ks)) ls).drop (a * 4)).length = (k - a) * 4 := by have := oK.1; rw [List.length_drop]; omega
                have hone : ∀ u ∈ flatK (qs.map (kidAt ks)) ls, u.oneCell' = true := flatK_one _ _ fun l hl => by
                  obtain ⟨j, hj, rfl⟩ := List.getElem_of_mem hl
                  exact lay_slices (HM.out.lay j hj (by have := HM.out.len; omega)).1
                have k11 : ∀ u ∈ (flatK (qs.map (kidAt ks)) ls).take (a * 4), u.oneCell' = true := fun u hu => hone u (List.mem_of_mem_take hu)
                have k12 : ∀ u ∈ (flatK (qs.map (kidAt ks)) ls).drop (a * 4), u.oneCell' = true := fun u hu => hone u (List.mem_of_mem_drop hu)
                clear hcl ee A0 A1 A2 A3 y3 hone hta hbu onU
                refine NoPanic.normal ?_
                go_simp
                go_wp2_with fail
                refine wp_region_noPanic ?_
                refine wp_region_till (fun w' => w'.cell? ⟨w.heap.size + 1, 3, none⟩ = some (.slice (some ⟨gK, 0, none⟩) k cK) ∧ w'.cell? ⟨bk, ok + k * 4, none⟩ = some (.int .i64 (kidAt ks k).kind) ∧ w'.cell? ⟨bk, ok + k * 4 + 1, none⟩ = some (.string (kidAt ks k).name) ∧ w'.cell? ⟨bk, ok + k * 4 + 2, none⟩ = some (.slice an2 ln2 cn2) ∧ w'.cell? ⟨bk, ok + k * 4 + 3, none⟩ = some (.slice ak2 lk2 ck2)) 19 (by kernel_rfl) ?_
                refine wpTill.take (i := 1) (v := ?_) rfl rfl (by kernel_rfl) (by kernel_rfl) (by kernel_rfl) (by kernel_rfl) (fun _ _ _ h => h) (Or.inl ⟨by rfl, ?_⟩) hSY ?_
                rotate_left
                · intro w9 hs9
                  obtain ⟨s0, s1, s2, s3, s4⟩ := hs9
                  go_simp
                  try rfl
                refine wpTill.take (i := 2) (v := ?_) rfl rfl (by kernel_rfl) (by kernel_rfl) (by kernel_rfl) (by kernel_rfl) (fun _ _ _ h => h) (Or.inl ⟨by rfl, ?_⟩) hSY ?_
                rotate_left
                · intro w9 hs9
                  obtain ⟨s0, s1, s2, s3, s4⟩ := hs9
                  go_simp
                  try rfl
                refine wpTill.take (i := 3) (v := ?_) rfl rfl (by kernel_rfl) (by kernel_rfl) (by kernel_rfl) (by kernel_rfl) (fun _ _ _ h => h) (Or.inl ⟨by rfl, ?_⟩) hSY ?_
                rotate_left
                · intro w9 hs9
                  obtain ⟨s0, s1, s2, s3, s4⟩ := hs9
                  go_simp
                  try rfl
                refine wpTill.take (i := 4) (v := ?_) rfl rfl (by kernel_rfl) (by kernel_rfl) (by kernel_rfl) (by kernel_rfl) (fun _ _ _ h => h) (Or.inl ⟨by rfl, ?_⟩) hSY ?_
                rotate_left
                · intro w9 hs9
                  obtain ⟨s0, s1, s2, s3, s4⟩ := hs9
                  go_simp
                  try rfl
                refine wpTill.take (i := 6) (v := ?_) rfl rfl (by kernel_rfl) (by kernel_rfl) (by kernel_rfl) (by kernel_rfl) (fun _ _ _ h => h) (Or.inl ⟨by rfl, ?_⟩) hSY ?_
                rotate_left
                · intro w9 hs9
                  obtain ⟨s0, s1, s2, s3, s4⟩ := hs9
                  go_simp
                  try rfl
                refine wpTill.take (i := 7) (v := ?_) rfl rfl (by kernel_rfl) (by kernel_rfl) (by kernel_rfl) (by kernel_rfl) (fun _ _ _ h => h) (Or.inl ⟨by rfl, ?_⟩) hSY ?_
                rotate_left
                · intro w9 hs9
                  obtain ⟨s0, s1, s2, s3, s4⟩ := hs9
                  go_simp
                  try rfl
                refine wpTill.take (i := 8) (v := ?_) rfl rfl (by kernel_rfl) (by kernel_rfl) (by kernel_rfl) (by kernel_rfl) (fun _ _ _ h => h) (Or.inl ⟨by rfl, ?_⟩) hSY ?_
                rotate_left
                · intro w9 hs9
                  obtain ⟨s0, s1, s2, s3, s4⟩ := hs9
                  go_simp
                  try rfl
                refine wpTill.take (i := 9) (v := ?_) rfl rfl (by kernel_rfl) (by kernel_rfl) (by kernel_rfl) (by kernel_rfl) (fun _ _ _ h => h) (Or.inl ⟨by rfl, ?_⟩) hSY ?_
                rotate_left
                · intro w9 hs9
                  obtain ⟨s0, s1, s2, s3, s4⟩ := hs9
                  go_simp
                  try rfl
                refine wpTill.take (i := 13) (v := ?_) rfl rfl (by kernel_rfl) (by kernel_rfl) (by kernel_rfl) (by kernel_rfl) (fun _ _ _ h => h) (Or.inl ⟨by rfl, ?_⟩) hSY ?_
                rotate_left
                · intro w9 hs9
                  obtain ⟨s0, s1, s2, s3, s4⟩ := hs9
                  go_simp
                  try rfl
                refine wpTill.take (i := 14) (v := ?_) rfl rfl (by kernel_rfl) (by kernel_rfl) (by kernel_rfl) (by kernel_rfl) (fun _ _ _ h => h) (Or.inl ⟨by rfl, ?_⟩) hSY ?_
                rotate_left
                · intro w9 hs9
                  obtain ⟨s0, s1, s2, s3, s4⟩ := hs9
                  go_simp
                  try rfl
                refine wpTill.take (i := 15) (v := ?_) rfl rfl (by kernel_rfl) (by kernel_rfl) (by kernel_rfl) (by kernel_rfl) (fun _ _ _ h => h) (Or.inl ⟨by rfl, ?_⟩) hSY ?_
                rotate_left
                · intro w9 hs9
                  obtain ⟨s0, s1, s2, s3, s4⟩ := hs9
                  go_simp
                  try rfl
                refine wpTill.take (i := 16) (v := ?_) rfl rfl (by kernel_rfl) (by kernel_rfl) (by kernel_rfl) (by kernel_rfl) (fun _ _ _ h => h) (Or.inl ⟨by rfl, ?_⟩) hSY ?_
                rotate_left
                · intro w9 hs9
                  obtain ⟨s0, s1, s2, s3, s4⟩ := hs9
                  go_simp
                  try rfl
                go_simp
                refine wpTill.ready (rs := [0]) (by kernel_rfl) (by simp) ?_
                intro i9 hi9
                simp only [List.mem_cons, List.not_mem_nil, or_false] at hi9
                subst hi9
                refine wpOp_of rfl (step_open (by rfl) ?_)
                go_simp
                have hb0 : Below Y.heap.size Y ((Y.alloc (.cells #[] 28)).drew) := ((Below.refl _ _).alloc (Nat.le_refl _) _).drew
                have e0 : ((Y.alloc (.cells #[] 28)).drew).heap[Y.heap.size]? = some (.cells #[] 28 (0, 0)) := (MapKept.heap_alloc Y _).1
                refine ⟨HSY.out _ ((Below.refl _ _).alloc (Nat.le_refl _) _), ?_⟩
                generalize ((Y.alloc (.cells #[] 28)).drew) = Y0 at *
                refine wpTill.ready (rs := [5]) (by kernel_rfl) (by simp) ?_
                intro i9 hi9
                simp only [List.mem_cons, List.not_mem_nil, or_false] at hi9
                subst hi9
                refine wpOp_of rfl (step_append_own (by rfl) (.tmp 59) (.tmp 63) 24 rfl Y.heap.size 28 i0 _ 4 72 Tryz.underlying24 hi0 hz0 hz1 hz2 rfl (by decide) (.slice (some ⟨Y.heap.size, 0, none⟩) 0 0) 0 [] (by rfl) (own_empty4Q e0 (Nat.le_refl _)) ⟨gK, 0, none⟩ a cK _ (by rfl) kl1 (HK1.out _ hb0) k11 (by unfold maxLen; omega) (by omega) hb0.size ?_)
                intro v5 w5 o5' g5 _
                have o5 : w5.ownsRow Y.heap.size 28 4 v5 a ((flatK (qs.map (kidAt ks)) ls).take (a * 4)) := by simpa using o5'
                have hb5 : Below Y.heap.size Y w5 := hb0.grown g5 hb0.size (fun j hj => by simp [Value.ownBlock] at hj; omega)
                clear o5' g5 e0 hb0
                refine ⟨fun _ => HSY.out _ hb5, ?_⟩
                go_simp
                refine wpTill.ready (rs := [10]) (by kernel_rfl) (by simp) ?_
                intro i9 hi9
                simp only [List.mem_cons, List.not_mem_nil, or_false] at hi9
                subst hi9
                have hbw5 : Below w.heap.size w w5 := hbwY.trans (hb5.mono HYZ.out.2)
                refine wpOp_of rfl (step_open (by rfl) ?_)
                go_simp
                go_at_call 35
                refine (HCP.out _ hbw5).mono ?_
                rintro e w6 ⟨an3, cn3, ak3, ck3, rfl, ⟨l, ecl, hnl⟩, hb6'⟩
                have o6 := kept_belowT o5 hb6'
                have hb6 := hb5.trans (hb6'.mono hb5.size)
                have hnl6 : NewLay w5.heap.size w6 n l (kidAt ks k) := hnl
                have hfar : ∀ b, v5.ownBlock = some b → b < w5.heap.size := fun b e => (o5.lt b e).2
                have hY5 := hb5.size
                clear hnl hb6' o5 hbw5 hb5
                refine ⟨HSY.out _ hb6, ?_⟩
                go_simp
                refine wpTill.ready (rs := [11]) (by kernel_rfl) (by simp) ?_
                intro i9 hi9
                simp only [List.mem_cons, List.not_mem_nil, or_false] at hi9
                subst hi9
                refine wpOp_of rfl (step_open (by rfl) ?_)
                go_simp
                have hb7 : Below Y.heap.size Y (w6.alloc (.cells #[.int .i64 (kidAt ks k).kind, .string (kidAt ks k).name, .slice an3 (kidAt ks k).names.length cn3, .slice ak3 (kidAt ks k).kids.length ck3] 28)) := hb6.alloc hb6.size _
                have o7 := o6.alloc (.cells #[.int .i64 (kidAt ks k).kind, .string (kidAt ks k).name, .slice an3 (kidAt ks k).names.length cn3, .slice ak3 (kidAt ks k).kids.length ck3] 28)
                have n7 := World.news_of_block (cs := #[.int .i64 (kidAt ks k).kind, .string (kidAt ks k).name, .slice an3 (kidAt ks k).names.length cn3, .slice ak3 (kidAt ks k).kids.length ck3]) (t := 28) (fr := (0, 0)) (heap_alloc_new w6 _)
                have hnl7 := hnl6.below ((Below.refl _ w6).alloc (Nat.le_refl _) (.cells #[.int .i64 (kidAt ks k).kind, .string (kidAt ks k).name, .slice an3 (kidAt ks k).names.length cn3, .slice ak3 (kidAt ks k).kids.length ck3] 28))
                refine ⟨HSY.out _ hb7, ?_⟩
                clear o6 hb6 hnl6
                generalize (w6.alloc (.cells #[.int .i64 (kidAt ks k).kind, .string (kidAt ks k).name, .slice an3 (kidAt ks k).names.length cn3, .slice ak3 (kidAt ks k).kids.length ck3] 28)) = Z at *
                refine wpTill.ready (rs := [12]) (by kernel_rfl) (by simp) ?_
                intro i9 hi9
                simp only [List.mem_cons, List.not_mem_nil, or_false] at hi9
                subst hi9
                refine wpOp_of rfl (step_append_lies _ (by rfl) (.tmp 64) (.tmp 70) 24 (by rfl) Y.heap.size 28 i0 _ 4 72 Tryz.underlying24 hi0 hz0 hz1 hz2 rfl (by decide) v5 a _ (by rfl) o7 ⟨w6.heap.size, 0, none⟩ 1 1 [.int .i64 (kidAt ks k).kind, .string (kidAt ks k).name, .slice an3 (kidAt ks k).names.length cn3, .slice ak3 (kidAt ks k).kids.length ck3] (by rfl) rfl n7 (by simp [Value.oneCell']) (by omega) (by unfold maxLen; omega) (by omega) hb7.size Z.heap.size rfl ?_)
                intro gg gc w11 o11 g11 hat hlt11
                have hb11 : Below Y.heap.size Y w11 := hb7.grown g11 hb7.size (fun j hj => (o7.lt j hj).1)
                have hne7 : ∀ b ∈ Lay.blocks n l, b < Z.heap.size ∧ v5.ownBlock ≠ some b := fun b hb => ⟨hnl7.1.lt hb, fun e => by have := hfar b e; have := hnl7.2.2 b hb; omega⟩
                have hnl11 : LayAt w11 n l (kidAt ks k) := hnl7.1.same fun b hb => g11.block b (hne7 b hb).1 (fun e => (hne7 b hb).2 e.symm)
                have hgg : ∀ b ∈ Lay.blocks n l, gg ≠ b := fun b hb e => by
                  rcases hat with h | h
                  · exact (hne7 b hb).2 (e ▸ h)
                  · have := (hne7 b hb).1; omega
                refine ⟨fun _ => HSY.out _ hb11, ?_⟩
                clear g11 n7 o7 hb7 hat
                go_simp
                refine wpTill.ready (rs := [17]) (by kernel_rfl) (by simp) ?_
                intro i9 hi9
                simp only [List.mem_cons, List.not_mem_nil, or_false] at hi9
                subst hi9
                refine wpOp_of rfl (step_append_own (by rfl) (.tmp 71) (.tmp 75) 24 rfl Y.heap.size 28 i0 _ 4 72 Tryz.underlying24 hi0 hz0 hz1 hz2 rfl (by decide) (.slice (some ⟨gg, 0, none⟩) (a + 1) gc) (a + 1) _ (by rfl) o11 D2 (k - a) (cK - a) _ (by rw [← hD2]; rfl) kl2 (HK2.out _ hb11) k12 (by unfold maxLen; omega) (by omega) hb11.size ?_)
                intro v16 w16 o16' g16 _
                have hb16 : Below Y.heap.size Y w16 := hb11.grown g16 hb11.size (fun j hj => (o11.lt j hj).1)
                have hnl16 : LayAt w16 n l (kidAt ks k) := hnl11.same fun b hb => g16.block b (hnl11.lt hb) (fun e => hgg b hb (Option.some.inj e).symm)
                have hlb16 : ∀ b ∈ Lay.blocks n l, Y.heap.size ≤ b := fun b hb => Nat.le_trans hY5 (hnl7.2.2 b hb)
                refine ⟨fun _ => HSY.out _ hb16, ?_⟩
                clear g16
                rw [show a + 1 + (k - a) = k + 1 from by omega] at o16'
                obtain ⟨a16, c16, e16⟩ := slice_ownM o16'
                subst e16
                have hTY : w.heap.size + 1 < Y.heap.size := (Array.getElem?_eq_some_iff.1 bY).1
                have hbox : w16.heap[w.heap.size + 1]? = _ := (hb16.block (w.heap.size + 1) hTY).trans bY
                obtain ⟨⟨t0, t1, t2, t3⟩, tf⟩ := block4 hbox
                have tf2 := tf 3
                clear tf
                go_simp
                refine wpTill.ready (rs := [18]) (by kernel_rfl) (by simp) ?_
                intro i9 hi9
                simp only [List.mem_cons, List.not_mem_nil, or_false] at hi9
                subst hi9
                refine wpOp_of rfl (step_open (by rfl) ?_)
                go_simp
                refine ⟨by first | exact HSY.out _ hb16 | exact (HSY.out _ hb16).2, ?_⟩
                refine wpTill.ready (rs := [19]) (by kernel_rfl) (by simp) ?_
                intro i9 hi9
                simp only [List.mem_cons, List.not_mem_nil, or_false] at hi9
                subst hi9
                refine wpOp_of rfl (step_open (by rfl) ?_)
                go_simp
                refine wpTill.done (by kernel_rfl) ?_ _
                refine NoPanic.normal ?_
                have R1 : RecM W1 (w16.setCell ⟨w.heap.size + 1, 3, none⟩ (.slice a16 (k + 1) c16)) (w.heap.size + 1) n nms ks (k + 1) (qs.take a ++ [k] ++ qs.drop a) (.slice aa (k + 1) cc) (.slice a16 (k + 1) c16) (ls.take a ++ [l] ++ ls.drop a) := by
                  refine HM.out.ins (by omega) (heap_setCell_same w16 _ 3 _ _ _ hbox) ?_ ?_ (hnl16.same fun b hb => Below.heap_setCell _ _ _ _ (fun e => by have := hlb16 b hb; simp only at e; omega)) (fun b hb => Nat.le_trans HYZ.out.1 (hlb16 b hb)) (((OnlyL.of_below hUX).trans onY).trans ((OnlyL.of_below hb16).trans (OnlyL.set _ _ _ (by simp)))) HORD.out.1 HORD.out.2
                  · rw [HZK.out]; exact owns_other (own_base (kept_belowT oY hb16) hWX) HM.out.lt
                  · rw [ecl]; exact owns_other (own_base o16' HYZ.out.1) HM.out.lt
                have HR1 : Hid (type_of% R1) := R1
                clear R1 t0 t1 t2 t3 tf2 o16' o11 hb16 hb11 hbox hSY HSY HSX hS0
                go_wp2_with fail
                go_roundw
                case rel => exact ⟨k + 1, _, _, _, _, by omega, by go_num, HR1.out⟩
                case measure => simp [intOf]; omega
              intro KONT
              refine wpTill.ready (rs := [0, 10]) (by kernel_rfl) (by simp) ?_
              intro i9 hi9
              simp only [List.mem_cons, List.not_mem_nil, or_false] at hi9
              rcases hi9 with rfl | rfl
              · refine wpOp_of rfl (step_open (by rfl) ?_)
                go_simp
                have hb0 : Below X.heap.size X ((X.alloc (.cells #[] 9)).drew) := ((Below.refl _ _).alloc (Nat.le_refl _) _).drew
                have e0 : ((X.alloc (.cells #[] 9)).drew).heap[X.heap.size]? = some (.cells #[] 9 (0, 0)) := (MapKept.heap_alloc X _).1
                refine ⟨HSX.out _ ((Below.refl _ _).alloc (Nat.le_refl _) _), ?_⟩
                generalize ((X.alloc (.cells #[] 9)).drew) = X0 at *
                refine wpTill.ready (rs := [5, 10]) (by kernel_rfl) (by simp) ?_
                intro i9 hi9
                simp only [List.mem_cons, List.not_mem_nil, or_false] at hi9
                rcases hi9 with rfl | rfl
                · refine wpOp_of rfl (step_append_own (by rfl) (.tmp 41) (.tmp 45) 26 rfl X.heap.size 9 j0 (.string ⟨#[]⟩) 1 16 Tryz.underlying26 hj0 hy0 hy1 hy2 rfl (by decide) (.slice (some ⟨X.heap.size, 0, none⟩) 0 0) 0 [] (by rfl) (own_empty e0 (Nat.le_refl _)) ⟨g, 0, none⟩ a cN _ (by rfl) hl1 (HN1.out _ hb0) h11 (by unfold maxLen; omega) (by omega) hb0.size ?_)
                  intro v5 w5 o5' g5 _
                  have o5 : w5.ownsRow X.heap.size 9 1 v5 a ((strV (qs.map (nameAt nms))).take a) := by simpa using o5'
                  have hb5 : Below X.heap.size X w5 := hb0.grown g5 hb0.size (fun j hj => by simp [Value.ownBlock] at hj; omega)
                  clear o5'
                  refine ⟨fun _ => HSX.out _ hb5, ?_⟩
                  go_simp
                  refine wpTill.ready (rs := [10]) (by kernel_rfl) (by simp) ?_
                  intro i9 hi9
                  simp only [List.mem_cons, List.not_mem_nil, or_false] at hi9
                  subst hi9
                  refine wpOp_of rfl (step_open (by rfl) ?_)
                  go_simp
                  have hbZ : Below X.heap.size X (w5.alloc (.cells #[.string z] 9)) := hb5.alloc hb5.size _
                  have c10 : (w5.alloc (.cells #[.string z] 9)).cell? ⟨w5.heap.size, 0, none⟩ = some (.string z) := by rw [cellNew _ rfl]; rfl
                  have oZ := o5.alloc (.cells #[.string z] 9)
                  refine ⟨HSX.out _ hbZ, ?_⟩
                  generalize (w5.alloc (.cells #[.string z] 9)) = Z at *
                  refine wpTill.ready (rs := [11]) (by kernel_rfl) (by simp) ?_
                  intro i9 hi9
                  simp only [List.mem_cons, List.not_mem_nil, or_false] at hi9
                  subst hi9
                  refine wpOp_of rfl (step_append_own (by rfl) (.tmp 46) (.tmp 51) 26 rfl X.heap.size 9 j0 (.string ⟨#[]⟩) 1 16 Tryz.underlying26 hj0 hy0 hy1 hy2 rfl (by decide) v5 a _ (by rfl) oZ ⟨w5.heap.size, 0, none⟩ 1 1 [.string z] (by rfl) rfl (cell_oneR c10) (fun u hu => by simp only [List.mem_singleton] at hu; subst hu; rfl) (by unfold maxLen; omega) (by omega) hbZ.size ?_)
                  intro v11 w11 o11 g11 _
                  have hb11 : Below X.heap.size X w11 := hbZ.grown g11 hbZ.size (fun j hj => (oZ.lt j hj).1)
                  refine ⟨fun _ => HSX.out _ hb11, ?_⟩
                  clear g11
                  go_simp
                  refine wpTill.ready (rs := [16]) (by kernel_rfl) (by simp) ?_
                  intro i9 hi9
                  simp only [List.mem_cons, List.not_mem_nil, or_false] at hi9
                  subst hi9
                  refine wpOp_of rfl (step_append_own (by rfl) (.tmp 52) (.tmp 56) 26 rfl X.heap.size 9 j0 (.string ⟨#[]⟩) 1 16 Tryz.underlying26 hj0 hy0 hy1 hy2 rfl (by decide) v11 (a + 1) _ (by rfl) o11 D (k - a) (cN - a) _ (by rw [← hD]; rfl) hl2 (HN2.out _ hb11) h12 (by unfold maxLen; omega) (by omega) hb11.size ?_)
                  intro v16 w16 o16' g16 _
                  have hb16 : Below X.heap.size X w16 := hb11.grown g16 hb11.size (fun j hj => (o11.lt j hj).1)
                  refine ⟨fun _ => HSX.out _ hb16, ?_⟩
                  clear g16
                  rw [show a + 1 + (k - a) = k + 1 from by omega] at o16'
                  obtain ⟨a16, c16, e16⟩ := slice_ownM o16'
                  subst e16
                  have hbox : w16.heap[w.heap.size + 1]? = _ := (hb16.block (w.heap.size + 1) (Nat.lt_of_lt_of_le lt1 hUX.size)).trans ((hUX.block _ lt1).trans HM.out.box)
                  obtain ⟨⟨t0, t1, t2, t3⟩, tf⟩ := block4 hbox
                  have tf2 := tf 2
                  clear tf
                  go_simp
                  refine wpTill.ready (rs := [17]) (by kernel_rfl) (by simp) ?_
                  intro i9 hi9
                  simp only [List.mem_cons, List.not_mem_nil, or_false] at hi9
                  subst hi9
                  refine wpOp_of rfl (step_open (by rfl) ?_)
                  go_simp
                  refine ⟨by first | exact HSX.out _ hb16 | exact (HSX.out _ hb16).2, ?_⟩
                  refine wpTill.ready (rs := [18]) (by kernel_rfl) (by simp) ?_
                  intro i9 hi9
                  simp only [List.mem_cons, List.not_mem_nil, or_false] at hi9
                  subst hi9
                  refine wpOp_of rfl (step_open (by rfl) ?_)
                  go_simp
                  refine wpTill.done (by kernel_rfl) ?_ _
                  refine act_eq (KONT.out (.slice (some ⟨X.heap.size, 0, none⟩) 0 0) v5 (.slice (some ⟨w5.heap.size, 0, none⟩) 1 1) v11 (.slice a16 (k + 1) c16) (.pointer (some ⟨w.heap.size + 1, 2, none⟩)) _ ⟨a16, c16, rfl, ?_, heap_setCell_same w16 _ 2 _ _ _ hbox, (OnlyL.of_below hb16).trans (OnlyL.set _ _ _ (by simp))⟩) (by kernel_rfl)
                  exact owns_other o16' (Nat.lt_of_lt_of_le lt1 hUX.size)
                · refine wpOp_of rfl (step_open (by rfl) ?_)
                  go_simp
                  have hbZ : Below X.heap.size X (X0.alloc (.cells #[.string z] 9)) := hb0.alloc hb0.size _
                  have c10 : (X0.alloc (.cells #[.string z] 9)).cell? ⟨X0.heap.size, 0, none⟩ = some (.string z) := by rw [cellNew _ rfl]; rfl
                  have e1 : (X0.alloc (.cells #[.string z] 9)).heap[X.heap.size]? = some (.cells #[] 9 (0, 0)) := ((MapKept.heap_alloc X0 _).2 _ (Array.getElem?_eq_some_iff.1 e0).1).trans e0
                  have hz1 : X0.heap.size < (X0.alloc (.cells #[.string z] 9)).heap.size := by simp
                  have hne : X0.heap.size ≠ X.heap.size := fun e => by have := (Array.getElem?_eq_some_iff.1 e0).1; omega
                  refine ⟨HSX.out _ hbZ, ?_⟩
                  generalize (X0.alloc (.cells #[.string z] 9)) = Z at *
                  refine wpTill.ready (rs := [5]) (by kernel_rfl) (by simp) ?_
                  intro i9 hi9
                  simp only [List.mem_cons, List.not_mem_nil, or_false] at hi9
                  subst hi9
                  refine wpOp_of rfl (step_append_own (by rfl) (.tmp 41) (.tmp 45) 26 rfl X.heap.size 9 j0 (.string ⟨#[]⟩) 1 16 Tryz.underlying26 hj0 hy0 hy1 hy2 rfl (by decide) (.slice (some ⟨X.heap.size, 0, none⟩) 0 0) 0 [] (by rfl) (own_empty e1 (Nat.le_refl _)) ⟨g, 0, none⟩ a cN _ (by rfl) hl1 (HN1.out _ hbZ) h11 (by unfold maxLen; omega) (by omega) hbZ.size ?_)
                  intro v5 w5 o5' g5 _
                  have o5 : w5.ownsRow X.heap.size 9 1 v5 a ((strV (qs.map (nameAt nms))).take a) := by simpa using o5'
                  have hb5 : Below X.heap.size X w5 := hbZ.grown g5 hbZ.size (fun j hj => by simp [Value.ownBlock] at hj; omega)
                  clear o5'
                  refine ⟨fun _ => HSX.out _ hb5, ?_⟩
                  go_simp
                  have c5 := (World.cell?_of_block (a := ⟨X0.heap.size, 0, none⟩) (g5.block X0.heap.size hz1 (by simp only [Value.ownBlock]; intro e; exact hne (Option.some.inj e)))).trans c10
                  refine wpTill.ready (rs := [11]) (by kernel_rfl) (by simp) ?_
                  intro i9 hi9
                  simp only [List.mem_cons, List.not_mem_nil, or_false] at hi9
                  subst hi9
                  refine wpOp_of rfl (step_append_own (by rfl) (.tmp 46) (.tmp 51) 26 rfl X.heap.size 9 j0 (.string ⟨#[]⟩) 1 16 Tryz.underlying26 hj0 hy0 hy1 hy2 rfl (by decide) v5 a _ (by rfl) o5 ⟨X0.heap.size, 0, none⟩ 1 1 [.string z] (by rfl) rfl (cell_oneR c5) (fun u hu => by simp only [List.mem_singleton] at hu; subst hu; rfl) (by unfold maxLen; omega) (by omega) hb5.size ?_)
                  intro v11 w11 o11 g11 _
                  have hb11 : Below X.heap.size X w11 := hb5.grown g11 hb5.size (fun j hj => (o5.lt j hj).1)
                  refine ⟨fun _ => HSX.out _ hb11, ?_⟩
                  clear g11
                  go_simp
                  refine wpTill.ready (rs := [16]) (by kernel_rfl) (by simp) ?_
                  intro i9 hi9
                  simp only [List.mem_cons, List.not_mem_nil, or_false] at hi9
                  subst hi9
                  refine wpOp_of rfl (step_append_own (by rfl) (.tmp 52) (.tmp 56) 26 rfl X.heap.size 9 j0 (.string ⟨#[]⟩) 1 16 Tryz.underlying26 hj0 hy0 hy1 hy2 rfl (by decide) v11 (a + 1) _ (by rfl) o11 D (k - a) (cN - a) _ (by rw [← hD]; rfl) hl2 (HN2.out _ hb11) h12 (by unfold maxLen; omega) (by omega) hb11.size ?_)
                  intro v16 w16 o16' g16 _
                  have hb16 : Below X.heap.size X w16 := hb11.grown g16 hb11.size (fun j hj => (o11.lt j hj).1)
                  refine ⟨fun _ => HSX.out _ hb16, ?_⟩
                  clear g16
                  rw [show a + 1 + (k - a) = k + 1 from by omega] at o16'
                  obtain ⟨a16, c16, e16⟩ := slice_ownM o16'
                  subst e16
                  have hbox : w16.heap[w.heap.size + 1]? = _ := (hb16.block (w.heap.size + 1) (Nat.lt_of_lt_of_le lt1 hUX.size)).trans ((hUX.block _ lt1).trans HM.out.box)
                  obtain ⟨⟨t0, t1, t2, t3⟩, tf⟩ := block4 hbox
                  have tf2 := tf 2
                  clear tf
                  go_simp
                  refine wpTill.ready (rs := [17]) (by kernel_rfl) (by simp) ?_
                  intro i9 hi9
                  simp only [List.mem_cons, List.not_mem_nil, or_false] at hi9
                  subst hi9
                  refine wpOp_of rfl (step_open (by rfl) ?_)
                  go_simp
                  refine ⟨by first | exact HSX.out _ hb16 | exact (HSX.out _ hb16).2, ?_⟩
                  refine wpTill.ready (rs := [18]) (by kernel_rfl) (by simp) ?_
                  intro i9 hi9
                  simp only [List.mem_cons, List.not_mem_nil, or_false] at hi9
                  subst hi9
                  refine wpOp_of rfl (step_open (by rfl) ?_)
                  go_simp
                  refine wpTill.done (by kernel_rfl) ?_ _
                  refine act_eq (KONT.out (.slice (some ⟨X.heap.size, 0, none⟩) 0 0) v5 (.slice (some ⟨X0.heap.size, 0, none⟩) 1 1) v11 (.slice a16 (k + 1) c16) (.pointer (some ⟨w.heap.size + 1, 2, none⟩)) _ ⟨a16, c16, rfl, ?_, heap_setCell_same w16 _ 2 _ _ _ hbox, (OnlyL.of_below hb16).trans (OnlyL.set _ _ _ (by simp))⟩) (by kernel_rfl)
                  exact owns_other o16' (Nat.lt_of_lt_of_le lt1 hUX.size)
              · refine wpOp_of rfl (step_open (by rfl) ?_)
                go_simp
                refine ⟨HSX.out _ ((Below.refl _ _).alloc (Nat.le_refl _) _), ?_⟩
                refine wpTill.ready (rs := [0]) (by kernel_rfl) (by simp) ?_
                intro i9 hi9
                simp only [List.mem_cons, List.not_mem_nil, or_false] at hi9
                subst hi9
                refine wpOp_of rfl (step_open (by rfl) ?_)
                go_simp
                have hbZ : Below X.heap.size X (((X.alloc (.cells #[.string z] 9)).alloc (.cells #[] 9)).drew) := (((Below.refl _ _).alloc (Nat.le_refl _) _).alloc (by simp) _).drew
                have e1 : (((X.alloc (.cells #[.string z] 9)).alloc (.cells #[] 9)).drew).heap[X.heap.size + 1]? = some (.cells #[] 9 (0, 0)) := heap_second X _ _
                have c10 : (((X.alloc (.cells #[.string z] 9)).alloc (.cells #[] 9)).drew).cell? ⟨X.heap.size, 0, none⟩ = some (.string z) := by
                  show ((X.alloc (.cells #[.string z] 9)).alloc (.cells #[] 9)).cell? ⟨X.heap.size, 0, none⟩ = _
                  simp only [World.cell?, heap_first X _ _]; rfl
                have hz1 : X.heap.size < (((X.alloc (.cells #[.string z] 9)).alloc (.cells #[] 9)).drew).heap.size := World.block_lt_of_cell? _ ⟨X.heap.size, 0, none⟩ c10
                refine ⟨HSX.out _ (((Below.refl _ _).alloc (Nat.le_refl _) _).alloc (by simp) _), ?_⟩
                generalize (((X.alloc (.cells #[.string z] 9)).alloc (.cells #[] 9)).drew) = Z at *
                refine wpTill.ready (rs := [5]) (by kernel_rfl) (by simp) ?_
                intro i9 hi9
                simp only [List.mem_cons, List.not_mem_nil, or_false] at hi9
                subst hi9
                refine wpOp_of rfl (step_append_own (by rfl) (.tmp 41) (.tmp 45) 26 rfl X.heap.size 9 j0 (.string ⟨#[]⟩) 1 16 Tryz.underlying26 hj0 hy0 hy1 hy2 rfl (by decide) (.slice (some ⟨X.heap.size + 1, 0, none⟩) 0 0) 0 [] (by rfl) (own_empty e1 (Nat.le_succ _)) ⟨g, 0, none⟩ a cN _ (by rfl) hl1 (HN1.out _ hbZ) h11 (by unfold maxLen; omega) (by omega) hbZ.size ?_)
                intro v5 w5 o5' g5 _
                have o5 : w5.ownsRow X.heap.size 9 1 v5 a ((strV (qs.map (nameAt nms))).take a) := by simpa using o5'
                have hb5 : Below X.heap.size X w5 := hbZ.grown g5 hbZ.size (fun j hj => by simp [Value.ownBlock] at hj; omega)
                clear o5'
                refine ⟨fun _ => HSX.out _ hb5, ?_⟩
                go_simp
                have c5 := (World.cell?_of_block (a := ⟨X.heap.size, 0, none⟩) (g5.block X.heap.size hz1 (by simp [Value.ownBlock]))).trans c10
                refine wpTill.ready (rs := [11]) (by kernel_rfl) (by simp) ?_
                intro i9 hi9
                simp only [List.mem_cons, List.not_mem_nil, or_false] at hi9
                subst hi9
                refine wpOp_of rfl (step_append_own (by rfl) (.tmp 46) (.tmp 51) 26 rfl X.heap.size 9 j0 (.string ⟨#[]⟩) 1 16 Tryz.underlying26 hj0 hy0 hy1 hy2 rfl (by decide) v5 a _ (by rfl) o5 ⟨X.heap.size, 0, none⟩ 1 1 [.string z] (by rfl) rfl (cell_oneR c5) (fun u hu => by simp only [List.mem_singleton] at hu; subst hu; rfl) (by unfold maxLen; omega) (by omega) hb5.size ?_)
                intro v11 w11 o11 g11 _
                have hb11 : Below X.heap.size X w11 := hb5.grown g11 hb5.size (fun j hj => (o5.lt j hj).1)
                refine ⟨fun _ => HSX.out _ hb11, ?_⟩
                clear g11
                go_simp
                refine wpTill.ready (rs := [16]) (by kernel_rfl) (by simp) ?_
                intro i9 hi9
                simp only [List.mem_cons, List.not_mem_nil, or_false] at hi9
                subst hi9
                refine wpOp_of rfl (step_append_own (by rfl) (.tmp 52) (.tmp 56) 26 rfl X.heap.size 9 j0 (.string ⟨#[]⟩) 1 16 Tryz.underlying26 hj0 hy0 hy1 hy2 rfl (by decide) v11 (a + 1) _ (by rfl) o11 D (k - a) (cN - a) _ (by rw [← hD]; rfl) hl2 (HN2.out _ hb11) h12 (by unfold maxLen; omega) (by omega) hb11.size ?_)
                intro v16 w16 o16' g16 _
                have hb16 : Below X.heap.size X w16 := hb11.grown g16 hb11.size (fun j hj => (o11.lt j hj).1)
                refine ⟨fun _ => HSX.out _ hb16, ?_⟩
                clear g16
                rw [show a + 1 + (k - a) = k + 1 from by omega] at o16'
                obtain ⟨a16, c16, e16⟩ := slice_ownM o16'
                subst e16
                have hbox : w16.heap[w.heap.size + 1]? = _ := (hb16.block (w.heap.size + 1) (Nat.lt_of_lt_of_le lt1 hUX.size)).trans ((hUX.block _ lt1).trans HM.out.box)
                obtain ⟨⟨t0, t1, t2, t3⟩, tf⟩ := block4 hbox
                have tf2 := tf 2
                clear tf
                go_simp
                refine wpTill.ready (rs := [17]) (by kernel_rfl) (by simp) ?_
                intro i9 hi9
                simp only [List.mem_cons, List.not_mem_nil, or_false] at hi9
                subst hi9
                refine wpOp_of rfl (step_open (by rfl) ?_)
                go_simp
                refine ⟨by first | exact HSX.out _ hb16 | exact (HSX.out _ hb16).2, ?_⟩
                refine wpTill.ready (rs := [18]) (by kernel_rfl) (by simp) ?_
                intro i9 hi9
                simp only [List.mem_cons, List.not_mem_nil, or_false] at hi9
                subst hi9
                refine wpOp_of rfl (step_open (by rfl) ?_)
                go_simp
                refine wpTill.done (by kernel_rfl) ?_ _
                refine act_eq (KONT.out (.slice (some ⟨X.heap.size + 1, 0, none⟩) 0 0) v5 (.slice (some ⟨X.heap.size, 0, none⟩) 1 1) v11 (.slice a16 (k + 1) c16) (.pointer (some ⟨w.heap.size + 1, 2, none⟩)) _ ⟨a16, c16, rfl, ?_, heap_setCell_same w16 _ 2 _ _ _ hbox, (OnlyL.of_below hb16).trans (OnlyL.set _ _ _ (by simp))⟩) (by kernel_rfl)
                exact owns_other o16' (Nat.lt_of_lt_of_le lt1 hUX.size)
          · by_cases hk0 : k = 0
            · subst hk0
              obtain rfl : a = 0 := by omega
              obtain ⟨e1, e2⟩ := HM.out.bare rfl
              simp only [Value.slice.injEq, true_and] at e1 e2
              obtain ⟨rfl, rfl⟩ := e1
              obtain ⟨rfl, rfl⟩ := e2
              obtain rfl : qs = [] := List.length_eq_zero_iff.1 HM.out.len.2
              obtain rfl : ls = [] := List.length_eq_zero_iff.1 HM.out.len.1
              have HZK : Hid (nameAt nms 0 = nms[0]) := nameAt_eq nms 0 hlt
              have hl0 : (0 : Int) < (nms.length : Int) := by omega
              generalize hz : nms[0] = z at *
              have N00 : wr.cell? ⟨bn, on, none⟩ = some (.string z) := N0
              clear HALL HQ n0 hz N0
              go_wp2_with fail
              go_quiet (fail)
              go_wp2_with fail
              have hbX : ∀ q, Below U.heap.size U (wr.drewN q) := fun q => below_drewN hbx q
              have Y2 : ∀ q, (wr.drewN q).cell? ⟨w.heap.size + 1, 2, none⟩ = some (.slice none 0 0) := fun q => ((hbX q).cell (p := ⟨w.heap.size + 1, 2, none⟩) lt1).trans tc2
              have YN : ∀ q, (wr.drewN q).cell? ⟨bn, on, none⟩ = some (.string z) := fun q => N00
              clear x2 N00 tc0 tc1 tc2 tc3
              generalize hX : wr.drewN _ = X at *
              have hS0 : X.cell? ⟨w.heap.size + 1, 2, none⟩ = some (.slice none 0 0) ∧ X.cell? ⟨bn, on, none⟩ = some (.string z) := ⟨hX ▸ Y2 _, hX ▸ YN _⟩
              have hUX : Below U.heap.size U X := hX ▸ hbX _
              have hWX : W1.heap.size ≤ X.heap.size := Nat.le_trans HM.out.only.size hUX.size
              have ltX : w.heap.size + 1 < X.heap.size := Nat.lt_of_lt_of_le lt1 hUX.size
              have hXU : X.heap[w.heap.size + 1]? = _ := (hUX.block _ lt1).trans HM.out.box
              refine wp_region_noPanic ?_
              refine wp_region_till (fun w' => w'.cell? ⟨w.heap.size + 1, 2, none⟩ = some (.slice none 0 0) ∧ w'.cell? ⟨bn, on, none⟩ = some (.string z)) 18 (by kernel_rfl) ?_
              refine wpTill.take (i := 1) (v := ?_) rfl rfl (by kernel_rfl) (by kernel_rfl) (by kernel_rfl) (by kernel_rfl) (fun _ _ _ h => h) (Or.inl ⟨by rfl, ?_⟩) hS0 ?_
              rotate_left
              · intro w9 hs9
                obtain ⟨s1, s2⟩ := hs9
                go_simp
                try rfl
              refine wpTill.take (i := 2) (v := ?_) rfl rfl (by kernel_rfl) (by kernel_rfl) (by kernel_rfl) (by kernel_rfl) (fun _ _ _ h => h) (Or.inl ⟨by rfl, ?_⟩) hS0 ?_
              rotate_left
              · intro w9 hs9
                obtain ⟨s1, s2⟩ := hs9
                go_simp
                try rfl
              refine wpTill.take (i := 3) (v := ?_) rfl rfl (by kernel_rfl) (by kernel_rfl) (by kernel_rfl) (by kernel_rfl) (fun _ _ _ h => h) (Or.inl ⟨by rfl, ?_⟩) hS0 ?_
              rotate_left
              · intro w9 hs9
                obtain ⟨s1, s2⟩ := hs9
                go_simp
                try rfl
              refine wpTill.take (i := 4) (v := ?_) rfl rfl (by kernel_rfl) (by kernel_rfl) (by kernel_rfl) (by kernel_rfl) (fun _ _ _ h => h) (Or.inl ⟨by rfl, ?_⟩) hS0 ?_
              rotate_left
              · intro w9 hs9
                obtain ⟨s1, s2⟩ := hs9
                go_simp
                try rfl
              refine wpTill.take (i := 6) (v := ?_) rfl rfl (by kernel_rfl) (by kernel_rfl) (by kernel_rfl) (by kernel_rfl) (fun _ _ _ h => h) (Or.inl ⟨by rfl, ?_⟩) hS0 ?_
              rotate_left
              · intro w9 hs9
                obtain ⟨s1, s2⟩ := hs9
                go_simp
                try rfl
              refine wpTill.take (i := 7) (v := ?_) rfl rfl (by kernel_rfl) (by kernel_rfl) (by kernel_rfl) (by kernel_rfl) (fun _ _ _ h => h) (Or.inl ⟨by rfl, ?_⟩) hS0 ?_
              rotate_left
              · intro w9 hs9
                obtain ⟨s1, s2⟩ := hs9
                go_simp
                try rfl
              refine wpTill.take (i := 8) (v := ?_) rfl rfl (by kernel_rfl) (by kernel_rfl) (by kernel_rfl) (by kernel_rfl) (fun _ _ _ h => h) (Or.inl ⟨by rfl, ?_⟩) hS0 ?_
              rotate_left
              · intro w9 hs9
                obtain ⟨s1, s2⟩ := hs9
                go_simp
                try rfl
              refine wpTill.take (i := 9) (v := ?_) rfl rfl (by kernel_rfl) (by kernel_rfl) (by kernel_rfl) (by kernel_rfl) (fun _ _ _ h => h) (Or.inl ⟨by rfl, ?_⟩) hS0 ?_
              rotate_left
              · intro w9 hs9
                obtain ⟨s1, s2⟩ := hs9
                go_simp
                try rfl
              refine wpTill.take (i := 12) (v := ?_) rfl rfl (by kernel_rfl) (by kernel_rfl) (by kernel_rfl) (by kernel_rfl) (fun _ _ _ h => h) (Or.inl ⟨by rfl, ?_⟩) hS0 ?_
              rotate_left
              · intro w9 hs9
                obtain ⟨s1, s2⟩ := hs9
                go_simp
                try rfl
              refine wpTill.take (i := 13) (v := ?_) rfl rfl (by kernel_rfl) (by kernel_rfl) (by kernel_rfl) (by kernel_rfl) (fun _ _ _ h => h) (Or.inl ⟨by rfl, ?_⟩) hS0 ?_
              rotate_left
              · intro w9 hs9
                obtain ⟨s1, s2⟩ := hs9
                go_simp
                try rfl
              refine wpTill.take (i := 14) (v := ?_) rfl rfl (by kernel_rfl) (by kernel_rfl) (by kernel_rfl) (by kernel_rfl) (fun _ _ _ h => h) (Or.inl ⟨by rfl, ?_⟩) hS0 ?_
              rotate_left
              · intro w9 hs9
                obtain ⟨s1, s2⟩ := hs9
                go_simp
                try rfl
              refine wpTill.take (i := 15) (v := ?_) rfl rfl (by kernel_rfl) (by kernel_rfl) (by kernel_rfl) (by kernel_rfl) (fun _ _ _ h => h) (Or.inl ⟨by rfl, ?_⟩) hS0 ?_
              rotate_left
              · intro w9 hs9
                obtain ⟨s1, s2⟩ := hs9
                go_simp
                try rfl
              have HSX : Hid (∀ Z : World, Below X.heap.size X Z → Z.cell? ⟨w.heap.size + 1, 2, none⟩ = some (.slice none 0 0) ∧ Z.cell? ⟨bn, on, none⟩ = some (.string z)) := fun Z hZ => ⟨(hZ.cell (p := ⟨w.heap.size + 1, 2, none⟩) (World.block_lt_of_cell? X _ hS0.1)).trans hS0.1, (hZ.cell (p := ⟨bn, on, none⟩) (World.block_lt_of_cell? X _ hS0.2)).trans hS0.2⟩
              go_simp
              refine till_kont 41 46 51 52 57 58 (fun v Y => ∃ (aa : Option Addr) (cc : Nat), v = .slice aa 1 cc ∧ Y.ownsRow X.heap.size 9 1 (.slice aa 1 cc) 1 [.string z] ∧ Y.heap[w.heap.size + 1]? = some (.cells #[.int .i64 5, .string ⟨#[]⟩, .slice aa 1 cc, .slice none 0 0] 28 (0, 0)) ∧ OnlyL [w.heap.size + 1] X Y) ?_ ?_
              · intro m1 m2 m3 m4 m5 m6 Y hF
                obtain ⟨aa, cc, rfl, oY, bY, onY⟩ := hF
                obtain ⟨⟨_, _, _, y3⟩, _⟩ := block4 bY
                have hkl : 0 < ks.length := by have := HNE.out; omega
                have kl0 : (0 : Int) < (ks.length : Int) := by omega
                obtain ⟨bk, ok, rfl, hbk, hcl⟩ := HCC.out 0 hkl
                have hta := HCA.out 0 hkl
                obtain ⟨an2, ln2, cn2, ak2, lk2, ck2, ee⟩ := hta.shape
                have hbwY : Below w.heap.size w Y := (hbw.trans (hUX.mono (by omega))).trans (onY.below (fun x hx => by simp only [List.mem_singleton] at hx; omega) (by have := hUX.size; omega))
                have A0 : Y.cell? ⟨bk, ok, none⟩ = some (.int .i64 (kidAt ks 0).kind) := (hbwY.cell (p := ⟨bk, ok, none⟩) hbk).trans (hcl 0 _ (by rw [ee]; rfl))
                have A1 : Y.cell? ⟨bk, ok + 1, none⟩ = some (.string (kidAt ks 0).name) := (hbwY.cell (p := ⟨bk, ok + 1, none⟩) hbk).trans (hcl 1 _ (by rw [ee]; rfl))
                have A2 : Y.cell? ⟨bk, ok + 2, none⟩ = some (.slice an2 ln2 cn2) := (hbwY.cell (p := ⟨bk, ok + 2, none⟩) hbk).trans (hcl 2 _ (by rw [ee]; rfl))
                have A3 : Y.cell? ⟨bk, ok + 3, none⟩ = some (.slice ak2 lk2 ck2) := (hbwY.cell (p := ⟨bk, ok + 3, none⟩) hbk).trans (hcl 3 _ (by rw [ee]; rfl))
                have hbu : Ty.bulk n (kidAt ks 0) ≤ 1048576 := by
                  have h1 := kid_bulk n ks 0 hkl
                  have h2 := HBK.out
                  rw [kidAt_eq ks 0 hkl]
                  unfold rowBulk at h2
                  omega
                have HCP : Hid (∀ wx : World, Below w.heap.size w wx → Calls Tryz.prog 35 #[.agg #[.int .i64 (kidAt ks 0).kind, .string (kidAt ks 0).name, .slice an2 ln2 cn2, .slice ak2 lk2 ck2]] wx fun e w' => ∃ (an3 : Option Addr) (cn3 : Nat) (ak3 : Option Addr) (ck3 : Nat), e = .returned (.agg #[.int .i64 (kidAt ks 0).kind, .string (kidAt ks 0).name, .slice an3 (kidAt ks 0).names.length cn3, .slice ak3 (kidAt ks 0).kids.length ck3]) ∧ (∃ l, cellsK (kidAt ks 0) l = [.int .i64 (kidAt ks 0).kind, .string (kidAt ks 0).name, .slice an3 (kidAt ks 0).names.length cn3, .slice ak3 (kidAt ks 0).kids.length ck3] ∧ NewLay wx.heap.size w' n l (kidAt ks 0)) ∧ Below wx.heap.size wx w') := fun wx hx => by
                  have := specCopy n (C 0) (kidAt ks 0) wx (hta.below hx) hbu
                  rw [ee] at this
                  refine this.mono ?_
                  rintro e w' ⟨l, rfl, hl, hb⟩
                  obtain ⟨an3, cn3, ak3, ck3, e3⟩ := lay_cellsN hl.1
                  exact ⟨an3, cn3, ak3, ck3, by rw [e3], ⟨l, e3, hl⟩, hb⟩
                have HYZ : Hid (W1.heap.size ≤ Y.heap.size ∧ w.heap.size ≤ Y.heap.size) := ⟨by have := onY.size; omega, hbwY.size⟩
                have hSY : Y.cell? ⟨w.heap.size + 1, 3, none⟩ = some (.slice none 0 0) ∧ Y.cell? ⟨bk, ok, none⟩ = some (.int .i64 (kidAt ks 0).kind) ∧ Y.cell? ⟨bk, ok + 1, none⟩ = some (.string (kidAt ks 0).name) ∧ Y.cell? ⟨bk, ok + 2, none⟩ = some (.slice an2 ln2 cn2) ∧ Y.cell? ⟨bk, ok + 3, none⟩ = some (.slice ak2 lk2 ck2) := ⟨y3, A0, A1, A2, A3⟩
                have HSY : Hid (∀ Z : World, Below Y.heap.size Y Z → Z.cell? ⟨w.heap.size + 1, 3, none⟩ = some (.slice none 0 0) ∧ Z.cell? ⟨bk, ok, none⟩ = some (.int .i64 (kidAt ks 0).kind) ∧ Z.cell? ⟨bk, ok + 1, none⟩ = some (.string (kidAt ks 0).name) ∧ Z.cell? ⟨bk, ok + 2, none⟩ = some (.slice an2 ln2 cn2) ∧ Z.cell? ⟨bk, ok + 3, none⟩ = some (.slice ak2 lk2 ck2)) := fun Z hZ => by
                  have hq : bk < Y.heap.size := World.block_lt_of_cell? Y _ A0
                  exact ⟨(hZ.cell (p := ⟨w.heap.size + 1, 3, none⟩) (World.block_lt_of_cell? Y _ y3)).trans y3, (hZ.cell (p := ⟨bk, ok, none⟩) hq).trans A0, (hZ.cell (p := ⟨bk, ok + 1, none⟩) hq).trans A1, (hZ.cell (p := ⟨bk, ok + 2, none⟩) hq).trans A2, (hZ.cell (p := ⟨bk, ok + 3, none⟩) hq).trans A3⟩
                clear hcl ee A0 A1 A2 A3 y3 hta hbu
                generalize hq0 : kidAt ks 0 = q at *
                refine NoPanic.normal ?_
                go_simp
                go_wp2_with fail
                refine wp_region_noPanic ?_
                refine wp_region_till (fun w' => w'.cell? ⟨w.heap.size + 1, 3, none⟩ = some (.slice none 0 0) ∧ w'.cell? ⟨bk, ok, none⟩ = some (.int .i64 q.kind) ∧ w'.cell? ⟨bk, ok + 1, none⟩ = some (.string q.name) ∧ w'.cell? ⟨bk, ok + 2, none⟩ = some (.slice an2 ln2 cn2) ∧ w'.cell? ⟨bk, ok + 3, none⟩ = some (.slice ak2 lk2 ck2)) 19 (by kernel_rfl) ?_
                refine wpTill.take (i := 1) (v := ?_) rfl rfl (by kernel_rfl) (by kernel_rfl) (by kernel_rfl) (by kernel_rfl) (fun _ _ _ h => h) (Or.inl ⟨by rfl, ?_⟩) hSY ?_
                rotate_left
                · intro w9 hs9
                  obtain ⟨s0, s1, s2, s3, s4⟩ := hs9
                  go_simp
                  try rfl
                refine wpTill.take (i := 2) (v := ?_) rfl rfl (by kernel_rfl) (by kernel_rfl) (by kernel_rfl) (by kernel_rfl) (fun _ _ _ h => h) (Or.inl ⟨by rfl, ?_⟩) hSY ?_
                rotate_left
                · intro w9 hs9
                  obtain ⟨s0, s1, s2, s3, s4⟩ := hs9
                  go_simp
                  try rfl
                refine wpTill.take (i := 3) (v := ?_) rfl rfl (by kernel_rfl) (by kernel_rfl) (by kernel_rfl) (by kernel_rfl) (fun _ _ _ h => h) (Or.inl ⟨by rfl, ?_⟩) hSY ?_
                rotate_left
                · intro w9 hs9
                  obtain ⟨s0, s1, s2, s3, s4⟩ := hs9
                  go_simp
                  try rfl
                refine wpTill.take (i := 4) (v := ?_) rfl rfl (by kernel_rfl) (by kernel_rfl) (by kernel_rfl) (by kernel_rfl) (fun _ _ _ h => h) (Or.inl ⟨by rfl, ?_⟩) hSY ?_
                rotate_left
                · intro w9 hs9
                  obtain ⟨s0, s1, s2, s3, s4⟩ := hs9
                  go_simp
                  try rfl
                refine wpTill.take (i := 6) (v := ?_) rfl rfl (by kernel_rfl) (by kernel_rfl) (by kernel_rfl) (by kernel_rfl) (fun _ _ _ h => h) (Or.inl ⟨by rfl, ?_⟩) hSY ?_
                rotate_left
                · intro w9 hs9
                  obtain ⟨s0, s1, s2, s3, s4⟩ := hs9
                  go_simp
                  try rfl
                refine wpTill.take (i := 7) (v := ?_) rfl rfl (by kernel_rfl) (by kernel_rfl) (by kernel_rfl) (by kernel_rfl) (fun _ _ _ h => h) (Or.inl ⟨by rfl, ?_⟩) hSY ?_
                rotate_left
                · intro w9 hs9
                  obtain ⟨s0, s1, s2, s3, s4⟩ := hs9
                  go_simp
                  try rfl
                refine wpTill.take (i := 8) (v := ?_) rfl rfl (by kernel_rfl) (by kernel_rfl) (by kernel_rfl) (by kernel_rfl) (fun _ _ _ h => h) (Or.inl ⟨by rfl, ?_⟩) hSY ?_
                rotate_left
                · intro w9 hs9
                  obtain ⟨s0, s1, s2, s3, s4⟩ := hs9
                  go_simp
                  try rfl
                refine wpTill.take (i := 9) (v := ?_) rfl rfl (by kernel_rfl) (by kernel_rfl) (by kernel_rfl) (by kernel_rfl) (fun _ _ _ h => h) (Or.inl ⟨by rfl, ?_⟩) hSY ?_
                rotate_left
                · intro w9 hs9
                  obtain ⟨s0, s1, s2, s3, s4⟩ := hs9
                  go_simp
                  try rfl
                refine wpTill.take (i := 13) (v := ?_) rfl rfl (by kernel_rfl) (by kernel_rfl) (by kernel_rfl) (by kernel_rfl) (fun _ _ _ h => h) (Or.inl ⟨by rfl, ?_⟩) hSY ?_
                rotate_left
                · intro w9 hs9
                  obtain ⟨s0, s1, s2, s3, s4⟩ := hs9
                  go_simp
                  try rfl
                refine wpTill.take (i := 14) (v := ?_) rfl rfl (by kernel_rfl) (by kernel_rfl) (by kernel_rfl) (by kernel_rfl) (fun _ _ _ h => h) (Or.inl ⟨by rfl, ?_⟩) hSY ?_
                rotate_left
                · intro w9 hs9
                  obtain ⟨s0, s1, s2, s3, s4⟩ := hs9
                  go_simp
                  try rfl
                refine wpTill.take (i := 15) (v := ?_) rfl rfl (by kernel_rfl) (by kernel_rfl) (by kernel_rfl) (by kernel_rfl) (fun _ _ _ h => h) (Or.inl ⟨by rfl, ?_⟩) hSY ?_
                rotate_left
                · intro w9 hs9
                  obtain ⟨s0, s1, s2, s3, s4⟩ := hs9
                  go_simp
                  try rfl
                refine wpTill.take (i := 16) (v := ?_) rfl rfl (by kernel_rfl) (by kernel_rfl) (by kernel_rfl) (by kernel_rfl) (fun _ _ _ h => h) (Or.inl ⟨by rfl, ?_⟩) hSY ?_
                rotate_left
                · intro w9 hs9
                  obtain ⟨s0, s1, s2, s3, s4⟩ := hs9
                  go_simp
                  try rfl
                go_simp
                refine wpTill.ready (rs := [0]) (by kernel_rfl) (by simp) ?_
                intro i9 hi9
                simp only [List.mem_cons, List.not_mem_nil, or_false] at hi9
                subst hi9
                refine wpOp_of rfl (step_open (by rfl) ?_)
                go_simp
                have hb0 : Below Y.heap.size Y ((Y.alloc (.cells #[] 28)).drew) := ((Below.refl _ _).alloc (Nat.le_refl _) _).drew
                have e0 : ((Y.alloc (.cells #[] 28)).drew).heap[Y.heap.size]? = some (.cells #[] 28 (0, 0)) := (MapKept.heap_alloc Y _).1
                refine ⟨HSY.out _ ((Below.refl _ _).alloc (Nat.le_refl _) _), ?_⟩
                generalize ((Y.alloc (.cells #[] 28)).drew) = w5 at *
                refine wpTill.ready (rs := [5]) (by kernel_rfl) (by simp) ?_
                intro i9 hi9
                simp only [List.mem_cons, List.not_mem_nil, or_false] at hi9
                subst hi9
                refine wpOp_of rfl (step_open (by rfl) ?_)
                go_simp
                refine ⟨by first | exact HSY.out _ hb0 | exact (HSY.out _ hb0).2, ?_⟩
                have o5 : w5.ownsRow Y.heap.size 28 4 (.slice (some ⟨Y.heap.size, 0, none⟩) 0 0) 0 [] := own_empty4Q e0 (Nat.le_refl _)
                clear e0
                refine wpTill.ready (rs := [10]) (by kernel_rfl) (by simp) ?_
                intro i9 hi9
                simp only [List.mem_cons, List.not_mem_nil, or_false] at hi9
                subst hi9
                have hbw5 : Below w.heap.size w w5 := hbwY.trans (hb0.mono HYZ.out.2)
                refine wpOp_of rfl (step_open (by rfl) ?_)
                go_simp
                go_at_call 35
                refine (HCP.out _ hbw5).mono ?_
                rintro e w6 ⟨an3, cn3, ak3, ck3, rfl, ⟨l, ecl, hnl⟩, hb6'⟩
                have o6 := kept_belowT o5 hb6'
                have hb6 := hb0.trans (hb6'.mono hb0.size)
                have hnl6 : NewLay w5.heap.size w6 n l q := hnl
                have hfar : Y.heap.size < w5.heap.size := (o5.lt _ rfl).2
                have hY5 := hb0.size
                clear hnl hb6' o5 hbw5 hb0
                refine ⟨HSY.out _ hb6, ?_⟩
                go_simp
                refine wpTill.ready (rs := [11]) (by kernel_rfl) (by simp) ?_
                intro i9 hi9
                simp only [List.mem_cons, List.not_mem_nil, or_false] at hi9
                subst hi9
                refine wpOp_of rfl (step_open (by rfl) ?_)
                go_simp
                have hb7 : Below Y.heap.size Y (w6.alloc (.cells #[.int .i64 q.kind, .string q.name, .slice an3 q.names.length cn3, .slice ak3 q.kids.length ck3] 28)) := hb6.alloc hb6.size _
                have o7 := o6.alloc (.cells #[.int .i64 q.kind, .string q.name, .slice an3 q.names.length cn3, .slice ak3 q.kids.length ck3] 28)
                have n7 := World.news_of_block (cs := #[.int .i64 q.kind, .string q.name, .slice an3 q.names.length cn3, .slice ak3 q.kids.length ck3]) (t := 28) (fr := (0, 0)) (heap_alloc_new w6 _)
                have hnl7 := hnl6.below ((Below.refl _ w6).alloc (Nat.le_refl _) (.cells #[.int .i64 q.kind, .string q.name, .slice an3 q.names.length cn3, .slice ak3 q.kids.length ck3] 28))
                refine ⟨HSY.out _ hb7, ?_⟩
                clear o6 hb6 hnl6
                generalize (w6.alloc (.cells #[.int .i64 q.kind, .string q.name, .slice an3 q.names.length cn3, .slice ak3 q.kids.length ck3] 28)) = Z at *
                refine wpTill.ready (rs := [12]) (by kernel_rfl) (by simp) ?_
                intro i9 hi9
                simp only [List.mem_cons, List.not_mem_nil, or_false] at hi9
                subst hi9
                refine wpOp_of rfl (step_append_lies _ (by rfl) (.tmp 64) (.tmp 70) 24 (by rfl) Y.heap.size 28 i0 _ 4 72 Tryz.underlying24 hi0 hz0 hz1 hz2 rfl (by decide) (.slice (some ⟨Y.heap.size, 0, none⟩) 0 0) 0 [] (by rfl) o7 ⟨w6.heap.size, 0, none⟩ 1 1 [.int .i64 q.kind, .string q.name, .slice an3 q.names.length cn3, .slice ak3 q.kids.length ck3] (by rfl) rfl n7 (by simp [Value.oneCell']) (by omega) (by unfold maxLen; omega) (by omega) hb7.size Z.heap.size rfl ?_)
                intro gg gc w11 o11 g11 hat hlt11
                have hb11 : Below Y.heap.size Y w11 := hb7.grown g11 hb7.size (fun j hj => (o7.lt j hj).1)
                have hne7 : ∀ b ∈ Lay.blocks n l, b < Z.heap.size ∧ (Value.slice (some ⟨Y.heap.size, 0, none⟩) 0 0).ownBlock ≠ some b := fun b hb => ⟨hnl7.1.lt hb, fun e => by have := hnl7.2.2 b hb; simp only [Value.ownBlock, Option.some.injEq] at e; omega⟩
                have hnl11 : LayAt w11 n l q := hnl7.1.same fun b hb => g11.block b (hne7 b hb).1 (fun e => (hne7 b hb).2 e.symm)
                have hlb11 : ∀ b ∈ Lay.blocks n l, Y.heap.size ≤ b := fun b hb => Nat.le_trans hY5 (hnl7.2.2 b hb)
                refine ⟨fun _ => HSY.out _ hb11, ?_⟩
                clear g11 n7 o7 hb7 hat
                have o11' : w11.ownsRow Y.heap.size 28 4 (.slice (some ⟨gg, 0, none⟩) 1 gc) 1 [.int .i64 q.kind, .string q.name, .slice an3 q.names.length cn3, .slice ak3 q.kids.length ck3] := o11
                clear o11
                have hgc : 1 ≤ gc := own_cap o11'
                go_simp
                refine wpTill.ready (rs := [17]) (by kernel_rfl) (by simp) ?_
                intro i9 hi9
                simp only [List.mem_cons, List.not_mem_nil, or_false] at hi9
                subst hi9
                refine wpOp_of rfl (step_open (by rfl) ?_)
                go_simp
                refine ⟨by first | exact HSY.out _ hb11 | exact (HSY.out _ hb11).2, ?_⟩
                have hTY : w.heap.size + 1 < Y.heap.size := (Array.getElem?_eq_some_iff.1 bY).1
                have hbox : w11.heap[w.heap.size + 1]? = _ := (hb11.block (w.heap.size + 1) hTY).trans bY
                obtain ⟨⟨t0, t1, t2, t3⟩, tf⟩ := block4 hbox
                have tf2 := tf 3
                clear tf
                refine wpTill.ready (rs := [18]) (by kernel_rfl) (by simp) ?_
                intro i9 hi9
                simp only [List.mem_cons, List.not_mem_nil, or_false] at hi9
                subst hi9
                refine wpOp_of rfl (step_open (by rfl) ?_)
                go_simp
                refine ⟨by first | exact HSY.out _ hb11 | exact (HSY.out _ hb11).2, ?_⟩
                refine wpTill.ready (rs := [19]) (by kernel_rfl) (by simp) ?_
                intro i9 hi9
                simp only [List.mem_cons, List.not_mem_nil, or_false] at hi9
                subst hi9
                refine wpOp_of rfl (step_open (by rfl) ?_)
                go_simp
                refine wpTill.done (by kernel_rfl) ?_ _
                refine NoPanic.normal ?_
                have R1 : RecM W1 (w11.setCell ⟨w.heap.size + 1, 3, none⟩ (.slice (some ⟨gg, 0, none⟩) 1 gc)) (w.heap.size + 1) n nms ks (0 + 1) ([].take 0 ++ [0] ++ [].drop 0) (.slice aa 1 cc) (.slice (some ⟨gg, 0, none⟩) 1 gc) ([].take 0 ++ [l] ++ [].drop 0) := by
                  refine HM.out.ins (Nat.le_refl 0) (heap_setCell_same w11 _ 3 _ _ _ hbox) ?_ ?_ (by rw [hq0]; exact hnl11.same fun b hb => Below.heap_setCell _ _ _ _ (fun e => by have := hlb11 b hb; simp only at e; omega)) (fun b hb => Nat.le_trans HYZ.out.1 (hlb11 b hb)) (((OnlyL.of_below hUX).trans onY).trans ((OnlyL.of_below hb11).trans (OnlyL.set _ _ _ (by simp)))) (fun j h => absurd h (by simp)) (fun j h => absurd h (by simp))
                  · rw [HZK.out]; simpa [strV] using owns_other (own_base (kept_belowT oY hb11) hWX) HM.out.lt
                  · rw [hq0, ecl]; simpa [flatK] using owns_other (own_base o11' HYZ.out.1) HM.out.lt
                have HR1 : Hid (type_of% R1) := R1
                clear R1 t0 t1 t2 t3 tf2 o11' hb11 hbox hSY HSY HSX hS0
                go_wp2_with fail
                go_roundw
                case rel => exact ⟨1, _, _, _, _, by omega, by go_num, HR1.out⟩
                case measure => simp [intOf]; omega
              intro KONT
              refine wpTill.ready (rs := [0, 10]) (by kernel_rfl) (by simp) ?_
              intro i9 hi9
              simp only [List.mem_cons, List.not_mem_nil, or_false] at hi9
              rcases hi9 with rfl | rfl
              · refine wpOp_of rfl (step_open (by rfl) ?_)
                go_simp
                have hb0 : Below X.heap.size X ((X.alloc (.cells #[] 9)).drew) := ((Below.refl _ _).alloc (Nat.le_refl _) _).drew
                have e0 : ((X.alloc (.cells #[] 9)).drew).heap[X.heap.size]? = some (.cells #[] 9 (0, 0)) := (MapKept.heap_alloc X _).1
                refine ⟨by first | exact HSX.out _ ((Below.refl _ _).alloc (Nat.le_refl _) _) | exact (HSX.out _ ((Below.refl _ _).alloc (Nat.le_refl _) _)).2, ?_⟩
                generalize ((X.alloc (.cells #[] 9)).drew) = X0 at *
                have o0 : X0.ownsRow X.heap.size 9 1 (.slice (some ⟨X.heap.size, 0, none⟩) 0 0) 0 [] := own_empty e0 (Nat.le_refl _)
                refine wpTill.ready (rs := [5, 10]) (by kernel_rfl) (by simp) ?_
                intro i9 hi9
                simp only [List.mem_cons, List.not_mem_nil, or_false] at hi9
                rcases hi9 with rfl | rfl
                · refine wpOp_of rfl (step_open (by rfl) ?_)
                  go_simp
                  refine ⟨by first | exact HSX.out _ hb0 | exact (HSX.out _ hb0).2, ?_⟩
                  refine wpTill.ready (rs := [10]) (by kernel_rfl) (by simp) ?_
                  intro i9 hi9
                  simp only [List.mem_cons, List.not_mem_nil, or_false] at hi9
                  subst hi9
                  refine wpOp_of rfl (step_open (by rfl) ?_)
                  go_simp
                  have hbZ : Below X.heap.size X (X0.alloc (.cells #[.string z] 9)) := hb0.alloc hb0.size _
                  have c10 : (X0.alloc (.cells #[.string z] 9)).cell? ⟨X0.heap.size, 0, none⟩ = some (.string z) := by rw [cellNew _ rfl]; rfl
                  have oZ := o0.alloc (.cells #[.string z] 9)
                  refine ⟨by first | exact HSX.out _ hbZ | exact (HSX.out _ hbZ).2, ?_⟩
                  generalize (X0.alloc (.cells #[.string z] 9)) = Z at *
                  refine wpTill.ready (rs := [11]) (by kernel_rfl) (by simp) ?_
                  intro i9 hi9
                  simp only [List.mem_cons, List.not_mem_nil, or_false] at hi9
                  subst hi9
                  refine wpOp_of rfl (step_append_own (by rfl) (.tmp 46) (.tmp 51) 26 rfl X.heap.size 9 j0 (.string ⟨#[]⟩) 1 16 Tryz.underlying26 hj0 hy0 hy1 hy2 rfl (by decide) (.slice (some ⟨X.heap.size, 0, none⟩) 0 0) 0 [] (by rfl) oZ ⟨X0.heap.size, 0, none⟩ 1 1 [.string z] (by rfl) rfl (cell_oneR c10) (fun u hu => by simp only [List.mem_singleton] at hu; subst hu; rfl) (by unfold maxLen; omega) (by omega) hbZ.size ?_)
                  intro v11 w11 o11' g11 _
                  have hb11 : Below X.heap.size X w11 := hbZ.grown g11 hbZ.size (fun j hj => (oZ.lt j hj).1)
                  have o11 : w11.ownsRow X.heap.size 9 1 v11 1 [.string z] := by simpa using o11'
                  refine ⟨fun _ => HSX.out _ hb11, ?_⟩
                  clear g11 o11'
                  obtain ⟨a16, c16, e16⟩ := slice_ownM o11
                  subst e16
                  obtain ⟨g16, rfl⟩ := own_someQ o11 (by omega)
                  have hc16 : 1 ≤ c16 := own_cap o11
                  go_simp
                  refine wpTill.ready (rs := [16]) (by kernel_rfl) (by simp) ?_
                  intro i9 hi9
                  simp only [List.mem_cons, List.not_mem_nil, or_false] at hi9
                  subst hi9
                  refine wpOp_of rfl (step_open (by rfl) ?_)
                  go_simp
                  refine ⟨by first | exact HSX.out _ hb11 | exact (HSX.out _ hb11).2, ?_⟩
                  have hbox : w11.heap[w.heap.size + 1]? = _ := (hb11.block (w.heap.size + 1) ltX).trans hXU
                  obtain ⟨⟨t0, t1, t2, t3⟩, tf⟩ := block4 hbox
                  have tf2 := tf 2
                  clear tf
                  refine wpTill.ready (rs := [17]) (by kernel_rfl) (by simp) ?_
                  intro i9 hi9
                  simp only [List.mem_cons, List.not_mem_nil, or_false] at hi9
                  subst hi9
                  refine wpOp_of rfl (step_open (by rfl) ?_)
                  go_simp
                  refine ⟨by first | exact HSX.out _ hb11 | exact (HSX.out _ hb11).2, ?_⟩
                  refine wpTill.ready (rs := [18]) (by kernel_rfl) (by simp) ?_
                  intro i9 hi9
                  simp only [List.mem_cons, List.not_mem_nil, or_false] at hi9
                  subst hi9
                  refine wpOp_of rfl (step_open (by rfl) ?_)
                  go_simp
                  refine wpTill.done (by kernel_rfl) ?_ _
                  refine act_eq (KONT.out (.slice (some ⟨X.heap.size, 0, none⟩) 0 0) (.slice (some ⟨X.heap.size, 0, none⟩) 0 0) (.slice (some ⟨X0.heap.size, 0, none⟩) 1 1) (.slice (some ⟨g16, 0, none⟩) 1 c16) (.slice (some ⟨g16, 0, none⟩) 1 c16) (.pointer (some ⟨w.heap.size + 1, 2, none⟩)) _ ⟨some ⟨g16, 0, none⟩, c16, rfl, ?_, heap_setCell_same w11 _ 2 _ _ _ hbox, (OnlyL.of_below hb11).trans (OnlyL.set _ _ _ (by simp))⟩) (by kernel_rfl)
                  exact owns_other o11 ltX
                · refine wpOp_of rfl (step_open (by rfl) ?_)
                  go_simp
                  have hbZ : Below X.heap.size X (X0.alloc (.cells #[.string z] 9)) := hb0.alloc hb0.size _
                  have c10 : (X0.alloc (.cells #[.string z] 9)).cell? ⟨X0.heap.size, 0, none⟩ = some (.string z) := by rw [cellNew _ rfl]; rfl
                  have oZ := o0.alloc (.cells #[.string z] 9)
                  refine ⟨by first | exact HSX.out _ hbZ | exact (HSX.out _ hbZ).2, ?_⟩
                  generalize (X0.alloc (.cells #[.string z] 9)) = Z at *
                  refine wpTill.ready (rs := [5]) (by kernel_rfl) (by simp) ?_
                  intro i9 hi9
                  simp only [List.mem_cons, List.not_mem_nil, or_false] at hi9
                  subst hi9
                  refine wpOp_of rfl (step_open (by rfl) ?_)
                  go_simp
                  refine ⟨by first | exact HSX.out _ hbZ | exact (HSX.out _ hbZ).2, ?_⟩
                  refine wpTill.ready (rs := [11]) (by kernel_rfl) (by simp) ?_
                  intro i9 hi9
                  simp only [List.mem_cons, List.not_mem_nil, or_false] at hi9
                  subst hi9
                  refine wpOp_of rfl (step_append_own (by rfl) (.tmp 46) (.tmp 51) 26 rfl X.heap.size 9 j0 (.string ⟨#[]⟩) 1 16 Tryz.underlying26 hj0 hy0 hy1 hy2 rfl (by decide) (.slice (some ⟨X.heap.size, 0, none⟩) 0 0) 0 [] (by rfl) oZ ⟨X0.heap.size, 0, none⟩ 1 1 [.string z] (by rfl) rfl (cell_oneR c10) (fun u hu => by simp only [List.mem_singleton] at hu; subst hu; rfl) (by unfold maxLen; omega) (by omega) hbZ.size ?_)
                  intro v11 w11 o11' g11 _
                  have hb11 : Below X.heap.size X w11 := hbZ.grown g11 hbZ.size (fun j hj => (oZ.lt j hj).1)
                  have o11 : w11.ownsRow X.heap.size 9 1 v11 1 [.string z] := by simpa using o11'
                  refine ⟨fun _ => HSX.out _ hb11, ?_⟩
                  clear g11 o11'
                  obtain ⟨a16, c16, e16⟩ := slice_ownM o11
                  subst e16
                  obtain ⟨g16, rfl⟩ := own_someQ o11 (by omega)
                  have hc16 : 1 ≤ c16 := own_cap o11
                  go_simp
                  refine wpTill.ready (rs := [16]) (by kernel_rfl) (by simp) ?_
                  intro i9 hi9
                  simp only [List.mem_cons, List.not_mem_nil, or_false] at hi9
                  subst hi9
                  refine wpOp_of rfl (step_open (by rfl) ?_)
                  go_simp
                  refine ⟨by first | exact HSX.out _ hb11 | exact (HSX.out _ hb11).2, ?_⟩
                  have hbox : w11.heap[w.heap.size + 1]? = _ := (hb11.block (w.heap.size + 1) ltX).trans hXU
                  obtain ⟨⟨t0, t1, t2, t3⟩, tf⟩ := block4 hbox
                  have tf2 := tf 2
                  clear tf
                  refine wpTill.ready (rs := [17]) (by kernel_rfl) (by simp) ?_
                  intro i9 hi9
                  simp only [List.mem_cons, List.not_mem_nil, or_false] at hi9
                  subst hi9
                  refine wpOp_of rfl (step_open (by rfl) ?_)
                  go_simp
                  refine ⟨by first | exact HSX.out _ hb11 | exact (HSX.out _ hb11).2, ?_⟩
                  refine wpTill.ready (rs := [18]) (by kernel_rfl) (by simp) ?_
                  intro i9 hi9
                  simp only [List.mem_cons, List.not_mem_nil, or_false] at hi9
                  subst hi9
                  refine wpOp_of rfl (step_open (by rfl) ?_)
                  go_simp
                  refine wpTill.done (by kernel_rfl) ?_ _
                  refine act_eq (KONT.out (.slice (some ⟨X.heap.size, 0, none⟩) 0 0) (.slice (some ⟨X.heap.size, 0, none⟩) 0 0) (.slice (some ⟨X0.heap.size, 0, none⟩) 1 1) (.slice (some ⟨g16, 0, none⟩) 1 c16) (.slice (some ⟨g16, 0, none⟩) 1 c16) (.pointer (some ⟨w.heap.size + 1, 2, none⟩)) _ ⟨some ⟨g16, 0, none⟩, c16, rfl, ?_, heap_setCell_same w11 _ 2 _ _ _ hbox, (OnlyL.of_below hb11).trans (OnlyL.set _ _ _ (by simp))⟩) (by kernel_rfl)
                  exact owns_other o11 ltX
              · refine wpOp_of rfl (step_open (by rfl) ?_)
                go_simp
                refine ⟨by first | exact HSX.out _ ((Below.refl _ _).alloc (Nat.le_refl _) _) | exact (HSX.out _ ((Below.refl _ _).alloc (Nat.le_refl _) _)).2, ?_⟩
                refine wpTill.ready (rs := [0]) (by kernel_rfl) (by simp) ?_
                intro i9 hi9
                simp only [List.mem_cons, List.not_mem_nil, or_false] at hi9
                subst hi9
                refine wpOp_of rfl (step_open (by rfl) ?_)
                go_simp
                have hbZ : Below X.heap.size X (((X.alloc (.cells #[.string z] 9)).alloc (.cells #[] 9)).drew) := (((Below.refl _ _).alloc (Nat.le_refl _) _).alloc (by simp) _).drew
                have e1 : (((X.alloc (.cells #[.string z] 9)).alloc (.cells #[] 9)).drew).heap[X.heap.size + 1]? = some (.cells #[] 9 (0, 0)) := heap_second X _ _
                have c10 : (((X.alloc (.cells #[.string z] 9)).alloc (.cells #[] 9)).drew).cell? ⟨X.heap.size, 0, none⟩ = some (.string z) := by
                  show ((X.alloc (.cells #[.string z] 9)).alloc (.cells #[] 9)).cell? ⟨X.heap.size, 0, none⟩ = _
                  simp only [World.cell?, heap_first X _ _]; rfl
                refine ⟨by first | exact HSX.out _ (((Below.refl _ _).alloc (Nat.le_refl _) _).alloc (by simp) _) | exact (HSX.out _ (((Below.refl _ _).alloc (Nat.le_refl _) _).alloc (by simp) _)).2, ?_⟩
                generalize (((X.alloc (.cells #[.string z] 9)).alloc (.cells #[] 9)).drew) = Z at *
                have oZ : Z.ownsRow X.heap.size 9 1 (.slice (some ⟨X.heap.size + 1, 0, none⟩) 0 0) 0 [] := own_empty e1 (Nat.le_succ _)
                refine wpTill.ready (rs := [5]) (by kernel_rfl) (by simp) ?_
                intro i9 hi9
                simp only [List.mem_cons, List.not_mem_nil, or_false] at hi9
                subst hi9
                refine wpOp_of rfl (step_open (by rfl) ?_)
                go_simp
                refine ⟨by first | exact HSX.out _ hbZ | exact (HSX.out _ hbZ).2, ?_⟩
                refine wpTill.ready (rs := [11]) (by kernel_rfl) (by simp) ?_
                intro i9 hi9
                simp only [List.mem_cons, List.not_mem_nil, or_false] at hi9
                subst hi9
                refine wpOp_of rfl (step_append_own (by rfl) (.tmp 46) (.tmp 51) 26 rfl X.heap.size 9 j0 (.string ⟨#[]⟩) 1 16 Tryz.underlying26 hj0 hy0 hy1 hy2 rfl (by decide) (.slice (some ⟨X.heap.size + 1, 0, none⟩) 0 0) 0 [] (by rfl) oZ ⟨X.heap.size, 0, none⟩ 1 1 [.string z] (by rfl) rfl (cell_oneR c10) (fun u hu => by simp only [List.mem_singleton] at hu; subst hu; rfl) (by unfold maxLen; omega) (by omega) hbZ.size ?_)
                intro v11 w11 o11' g11 _
                have hb11 : Below X.heap.size X w11 := hbZ.grown g11 hbZ.size (fun j hj => (oZ.lt j hj).1)
                have o11 : w11.ownsRow X.heap.size 9 1 v11 1 [.string z] := by simpa using o11'
                refine ⟨fun _ => HSX.out _ hb11, ?_⟩
                clear g11 o11'
                obtain ⟨a16, c16, e16⟩ := slice_ownM o11
                subst e16
                obtain ⟨g16, rfl⟩ := own_someQ o11 (by omega)
                have hc16 : 1 ≤ c16 := own_cap o11
                go_simp
                refine wpTill.ready (rs := [16]) (by kernel_rfl) (by simp) ?_
                intro i9 hi9
                simp only [List.mem_cons, List.not_mem_nil, or_false] at hi9
                subst hi9
                refine wpOp_of rfl (step_open (by rfl) ?_)
                go_simp
                refine ⟨by first | exact HSX.out _ hb11 | exact (HSX.out _ hb11).2, ?_⟩
                have hbox : w11.heap[w.heap.size + 1]? = _ := (hb11.block (w.heap.size + 1) ltX).trans hXU
                obtain ⟨⟨t0, t1, t2, t3⟩, tf⟩ := block4 hbox
                have tf2 := tf 2
                clear tf
                refine wpTill.ready (rs := [17]) (by kernel_rfl) (by simp) ?_
                intro i9 hi9
                simp only [List.mem_cons, List.not_mem_nil, or_false] at hi9
                subst hi9
                refine wpOp_of rfl (step_open (by rfl) ?_)
                go_simp
                refine ⟨by first | exact HSX.out _ hb11 | exact (HSX.out _ hb11).2, ?_⟩
                refine wpTill.ready (rs := [18]) (by kernel_rfl) (by simp) ?_
                intro i9 hi9
                simp only [List.mem_cons, List.not_mem_nil, or_false] at hi9
                subst hi9
                refine wpOp_of rfl (step_open (by rfl) ?_)
                go_simp
                refine wpTill.done (by kernel_rfl) ?_ _
                refine act_eq (KONT.out (.slice (some ⟨X.heap.size + 1, 0, none⟩) 0 0) (.slice (some ⟨X.heap.size + 1, 0, none⟩) 0 0) (.slice (some ⟨X.heap.size, 0, none⟩) 1 1) (.slice (some ⟨g16, 0, none⟩) 1 c16) (.slice (some ⟨g16, 0, none⟩) 1 c16) (.pointer (some ⟨w.heap.size + 1, 2, none⟩)) _ ⟨some ⟨g16, 0, none⟩, c16, rfl, ?_, heap_setCell_same w11 _ 2 _ _ _ hbox, (OnlyL.of_below hb11).trans (OnlyL.set _ _ _ (by simp))⟩) (by kernel_rfl)
                exact owns_other o11 ltX
            · obtain ⟨g, hgN, hgl, q0⟩ := HQ.out 0 (by omega)
              subst hgN
              have a1 : decide ((a : Int) < (k : Int)) = false := decide_eq_false (by omega)
              have a2 : ¬ (a : Int) < (k : Int) := by omega
              have hzk : nameAt nms k = nms[k] := nameAt_eq nms k hlt
              have hlq : qs.length = k := HM.out.len.2
              have HORD : Hid ((∀ j (h : j < qs.length), j < a → lessB (nameAt nms qs[j]) (nameAt nms k)) ∧ ∀ j (h : j < qs.length), a ≤ j → ¬ lessB (nameAt nms qs[j]) (nameAt nms k)) := by
                rw [hzk]
                refine ⟨fun j h hj => ?_, fun j h hj => absurd hj (by omega)⟩
                have := HALL.out j hj
                rwa [show qs.getD j 0 = qs[j] from by simp [List.getD, h]] at this
              have HZK : Hid (nameAt nms k = nms[k]) := hzk
              clear hzk hlq
              generalize hz : nms[k] = z at *
              go_wp2_with fail
              go_quiet (fail)
              go_wp2_with fail
              have hbX : ∀ q, Below U.heap.size U (wr.drewN q) := fun q => below_drewN hbx q
              have Y2 : ∀ q, (wr.drewN q).cell? ⟨w.heap.size + 1, 2, none⟩ = some (.slice (some ⟨g, 0, none⟩) k cN) := fun q => ((hbX q).cell (p := ⟨w.heap.size + 1, 2, none⟩) lt1).trans tc2
              have YN : ∀ q, (wr.drewN q).cell? ⟨bn, on + k, none⟩ = some (.string z) := fun q => N0
              clear x2 N0 HALL HQ q0 n0 tc0 tc1 tc2 tc3
              generalize hX : wr.drewN _ = X at *
              have hS0 : X.cell? ⟨w.heap.size + 1, 2, none⟩ = some (.slice (some ⟨g, 0, none⟩) k cN) ∧ X.cell? ⟨bn, on + k, none⟩ = some (.string z) := ⟨hX ▸ Y2 _, hX ▸ YN _⟩
              have hUX : Below U.heap.size U X := hX ▸ hbX _
              have oX := kept_belowT HM.out.names hUX
              have hWX : W1.heap.size ≤ X.heap.size := Nat.le_trans HM.out.only.size hUX.size
              have hkc : k ≤ cN := own_cap oX
              have ac : (a : Int) ≤ (cN : Int) := by omega
              have akI : (a : Int) ≤ (k : Int) := by omega
              have kcI : (k : Int) ≤ (cN : Int) := by omega
              refine wp_region_noPanic ?_
              refine wp_region_till (fun w' => w'.cell? ⟨w.heap.size + 1, 2, none⟩ = some (.slice (some ⟨g, 0, none⟩) k cN) ∧ w'.cell? ⟨bn, on + k, none⟩ = some (.string z)) 18 (by kernel_rfl) ?_
              refine wpTill.take (i := 1) (v := ?_) rfl rfl (by kernel_rfl) (by kernel_rfl) (by kernel_rfl) (by kernel_rfl) (fun _ _ _ h => h) (Or.inl ⟨by rfl, ?_⟩) hS0 ?_
              rotate_left
              · intro w9 hs9
                obtain ⟨s1, s2⟩ := hs9
                go_simp
                try rfl
              refine wpTill.take (i := 2) (v := ?_) rfl rfl (by kernel_rfl) (by kernel_rfl) (by kernel_rfl) (by kernel_rfl) (fun _ _ _ h => h) (Or.inl ⟨by rfl, ?_⟩) hS0 ?_
              rotate_left
              · intro w9 hs9
                obtain ⟨s1, s2⟩ := hs9
                go_simp
                try rfl
              refine wpTill.take (i := 3) (v := ?_) rfl rfl (by kernel_rfl) (by kernel_rfl) (by kernel_rfl) (by kernel_rfl) (fun _ _ _ h => h) (Or.inl ⟨by rfl, ?_⟩) hS0 ?_
              rotate_left
              · intro w9 hs9
                obtain ⟨s1, s2⟩ := hs9
                go_simp
                try rfl
              refine wpTill.take (i := 4) (v := ?_) rfl rfl (by kernel_rfl) (by kernel_rfl) (by kernel_rfl) (by kernel_rfl) (fun _ _ _ h => h) (Or.inl ⟨by rfl, ?_⟩) hS0 ?_
              rotate_left
              · intro w9 hs9
                obtain ⟨s1, s2⟩ := hs9
                go_simp
                try rfl
              refine wpTill.take (i := 6) (v := ?_) rfl rfl (by kernel_rfl) (by kernel_rfl) (by kernel_rfl) (by kernel_rfl) (fun _ _ _ h => h) (Or.inl ⟨by rfl, ?_⟩) hS0 ?_
              rotate_left
              · intro w9 hs9
                obtain ⟨s1, s2⟩ := hs9
                go_simp
                try rfl
              refine wpTill.take (i := 7) (v := ?_) rfl rfl (by kernel_rfl) (by kernel_rfl) (by kernel_rfl) (by kernel_rfl) (fun _ _ _ h => h) (Or.inl ⟨by rfl, ?_⟩) hS0 ?_
              rotate_left
              · intro w9 hs9
                obtain ⟨s1, s2⟩ := hs9
                go_simp
                try rfl
              refine wpTill.take (i := 8) (v := ?_) rfl rfl (by kernel_rfl) (by kernel_rfl) (by kernel_rfl) (by kernel_rfl) (fun _ _ _ h => h) (Or.inl ⟨by rfl, ?_⟩) hS0 ?_
              rotate_left
              · intro w9 hs9
                obtain ⟨s1, s2⟩ := hs9
                go_simp
                try rfl
              refine wpTill.take (i := 9) (v := ?_) rfl rfl (by kernel_rfl) (by kernel_rfl) (by kernel_rfl) (by kernel_rfl) (fun _ _ _ h => h) (Or.inl ⟨by rfl, ?_⟩) hS0 ?_
              rotate_left
              · intro w9 hs9
                obtain ⟨s1, s2⟩ := hs9
                go_simp
                try rfl
              refine wpTill.take (i := 12) (v := ?_) rfl rfl (by kernel_rfl) (by kernel_rfl) (by kernel_rfl) (by kernel_rfl) (fun _ _ _ h => h) (Or.inl ⟨by rfl, ?_⟩) hS0 ?_
              rotate_left
              · intro w9 hs9
                obtain ⟨s1, s2⟩ := hs9
                go_simp
                try rfl
              refine wpTill.take (i := 13) (v := ?_) rfl rfl (by kernel_rfl) (by kernel_rfl) (by kernel_rfl) (by kernel_rfl) (fun _ _ _ h => h) (Or.inl ⟨by rfl, ?_⟩) hS0 ?_
              rotate_left
              · intro w9 hs9
                obtain ⟨s1, s2⟩ := hs9
                go_simp
                try rfl
              refine wpTill.take (i := 14) (v := ?_) rfl rfl (by kernel_rfl) (by kernel_rfl) (by kernel_rfl) (by kernel_rfl) (fun _ _ _ h => h) (Or.inl ⟨by rfl, ?_⟩) hS0 ?_
              rotate_left
              · intro w9 hs9
                obtain ⟨s1, s2⟩ := hs9
                go_simp
                try rfl
              refine wpTill.take (i := 15) (v := ?_) rfl rfl (by kernel_rfl) (by kernel_rfl) (by kernel_rfl) (by kernel_rfl) (fun _ _ _ h => h) (Or.inl ⟨by rfl, ?_⟩) hS0 ?_
              rotate_left
              · intro w9 hs9
                obtain ⟨s1, s2⟩ := hs9
                go_simp
                try rfl
              have HSX : Hid (∀ Z : World, Below X.heap.size X Z → Z.cell? ⟨w.heap.size + 1, 2, none⟩ = some (.slice (some ⟨g, 0, none⟩) k cN) ∧ Z.cell? ⟨bn, on + k, none⟩ = some (.string z)) := fun Z hZ => ⟨(hZ.cell (p := ⟨w.heap.size + 1, 2, none⟩) (World.block_lt_of_cell? X _ hS0.1)).trans hS0.1, (hZ.cell (p := ⟨bn, on + k, none⟩) (World.block_lt_of_cell? X _ hS0.2)).trans hS0.2⟩
              have HN1 : Hid (∀ Z : World, Below X.heap.size X Z → ∀ j u, ((strV (qs.map (nameAt nms))).take a)[j]? = some u → Z.cell? ((⟨g, 0, none⟩ : Addr).add j) = some u) := fun Z hZ => own_take oX hZ a
              obtain ⟨D, hD, HN2⟩ : ∃ D : Addr, (if cN = a then some (⟨g, 0, none⟩ : Addr) else some ⟨g, a, none⟩) = some D ∧ Hid (∀ Z : World, Below X.heap.size X Z → ∀ j u, ((strV (qs.map (nameAt nms))).drop a)[j]? = some u → Z.cell? (D.add j) = some u) := by
                by_cases c : cN = a
                · refine ⟨_, if_pos c, fun Z hZ j u hu => ?_⟩
                  have := (List.getElem?_eq_some_iff.1 hu).1
                  have := oX.1
                  rw [List.length_drop] at *
                  omega
                · exact ⟨_, if_neg c, fun Z hZ => own_drop oX hZ a⟩
              have hl1 : ((strV (qs.map (nameAt nms))).take a).length = a * 1 := by have := oX.1; rw [List.length_take]; omega
              have hl2 : ((strV (qs.map (nameAt nms))).drop a).length = (k - a) * 1 := by have := oX.1; rw [List.length_drop]; omega
              have h11 : ∀ u ∈ (strV (qs.map (nameAt nms))).take a, u.oneCell' = true := fun u hu => strV_one _ u (List.mem_of_mem_take hu)
              have h12 : ∀ u ∈ (strV (qs.map (nameAt nms))).drop a, u.oneCell' = true := fun u hu => strV_one _ u (List.mem_of_mem_drop hu)
              go_simp
              refine till_kont 41 46 51 52 57 58 (fun v Y => ∃ (aa : Option Addr) (cc : Nat), v = .slice aa (k + 1) cc ∧ Y.ownsRow X.heap.size 9 1 (.slice aa (k + 1) cc) (k + 1) ((strV (qs.map (nameAt nms))).take a ++ [.string z] ++ (strV (qs.map (nameAt nms))).drop a) ∧ Y.heap[w.heap.size + 1]? = some (.cells #[.int .i64 5, .string ⟨#[]⟩, .slice aa (k + 1) cc, .slice aK k cK] 28 (0, 0)) ∧ OnlyL [w.heap.size + 1] X Y) ?_ ?_
              · intro m1 m2 m3 m4 m5 m6 Y hF
                obtain ⟨aa, cc, rfl, oY, bY, onY⟩ := hF
                obtain ⟨⟨_, _, _, y3⟩, _⟩ := block4 bY
                have onU : OnlyL [w.heap.size + 1] U Y := (OnlyL.of_below hUX).trans onY
                obtain ⟨gK, rfl⟩ : ∃ gK, aK = some (⟨gK, 0, none⟩ : Addr) := own_someQ HM.out.kids (by omega)
                have oK : Y.ownsRow W1.heap.size 28 4 (.slice (some ⟨gK, 0, none⟩) k cK) k (flatK (qs.map (kidAt ks)) ls) := owns_onlyL HM.out.kids onU (fun x hx => by simp only [List.mem_singleton] at hx; omega)
                have hkc2 : k ≤ cK := own_cap oK
                have acK : (a : Int) ≤ (cK : Int) := by omega
                have kcK : (k : Int) ≤ (cK : Int) := by omega
                have hkl : k < ks.length := by have := HNE.out; omega
                have kl0 : (k : Int) < (ks.length : Int) := by omega
                obtain ⟨bk, ok, rfl, hbk, hcl⟩ := HCC.out k hkl
                have hta := HCA.out k hkl
                obtain ⟨an2, ln2, cn2, ak2, lk2, ck2, ee⟩ := hta.shape
                have hbwY : Below w.heap.size w Y := (hbw.trans (hUX.mono (by omega))).trans (onY.below (fun x hx => by simp only [List.mem_singleton] at hx; omega) (by have := hUX.size; omega))
                have A0 : Y.cell? ⟨bk, ok + k * 4, none⟩ = some (.int .i64 (kidAt ks k).kind) := (hbwY.cell (p := ⟨bk, ok + k * 4, none⟩) hbk).trans (hcl 0 _ (by rw [ee]; rfl))
                have A1 : Y.cell? ⟨bk, ok + k * 4 + 1, none⟩ = some (.string (kidAt ks k).name) := (hbwY.cell (p := ⟨bk, ok + k * 4 + 1, none⟩) hbk).trans (hcl 1 _ (by rw [ee]; rfl))
                have A2 : Y.cell? ⟨bk, ok + k * 4 + 2, none⟩ = some (.slice an2 ln2 cn2) := (hbwY.cell (p := ⟨bk, ok + k * 4 + 2, none⟩) hbk).trans (hcl 2 _ (by rw [ee]; rfl))
                have A3 : Y.cell? ⟨bk, ok + k * 4 + 3, none⟩ = some (.slice ak2 lk2 ck2) := (hbwY.cell (p := ⟨bk, ok + k * 4 + 3, none⟩) hbk).trans (hcl 3 _ (by rw [ee]; rfl))
                have hbu : Ty.bulk n (kidAt ks k) ≤ 1048576 := by
                  have h1 := kid_bulk n ks k hkl
                  have h2 := HBK.out
                  rw [kidAt_eq ks k hkl]
                  unfold rowBulk at h2
                  omega
                have HCP : Hid (∀ wx : World, Below w.heap.size w wx → Calls Tryz.prog 35 #[.agg #[.int .i64 (kidAt ks k).kind, .string (kidAt ks k).name, .slice an2 ln2 cn2, .slice ak2 lk2 ck2]] wx fun e w' => ∃ (an3 : Option Addr) (cn3 : Nat) (ak3 : Option Addr) (ck3 : Nat), e = .returned (.agg #[.int .i64 (kidAt ks k).kind, .string (kidAt ks k).name, .slice an3 (kidAt ks k).names.length cn3, .slice ak3 (kidAt ks k).kids.length ck3]) ∧ (∃ l, cellsK (kidAt ks k) l = [.int .i64 (kidAt ks k).kind, .string (kidAt ks k).name, .slice an3 (kidAt ks k).names.length cn3, .slice ak3 (kidAt ks k).kids.length ck3] ∧ NewLay wx.heap.size w' n l (kidAt ks k)) ∧ Below wx.heap.size wx w') := fun wx hx => by
                  have := specCopy n (C k) (kidAt ks k) wx (hta.below hx) hbu
                  rw [ee] at this
                  refine this.mono ?_
                  rintro e w' ⟨l, rfl, hl, hb⟩
                  obtain ⟨an3, cn3, ak3, ck3, e3⟩ := lay_cellsN hl.1
                  exact ⟨an3, cn3, ak3, ck3, by rw [e3], ⟨l, e3, hl⟩, hb⟩
                have HYZ : Hid (W1.heap.size ≤ Y.heap.size ∧ w.heap.size ≤ Y.heap.size) := ⟨by have := onY.size; omega, hbwY.size⟩
                have hSY : Y.cell? ⟨w.heap.size + 1, 3, none⟩ = some (.slice (some ⟨gK, 0, none⟩) k cK) ∧ Y.cell? ⟨bk, ok + k * 4, none⟩ = some (.int .i64 (kidAt ks k).kind) ∧ Y.cell? ⟨bk, ok + k * 4 + 1, none⟩ = some (.string (kidAt ks k).name) ∧ Y.cell? ⟨bk, ok + k * 4 + 2, none⟩ = some (.slice an2 ln2 cn2) ∧ Y.cell? ⟨bk, ok + k * 4 + 3, none⟩ = some (.slice ak2 lk2 ck2) := ⟨y3, A0, A1, A2, A3⟩
                have HSY : Hid (∀ Z : World, Below Y.heap.size Y Z → Z.cell? ⟨w.heap.size + 1, 3, none⟩ = some (.slice (some ⟨gK, 0, none⟩) k cK) ∧ Z.cell? ⟨bk, ok + k * 4, none⟩ = some (.int .i64 (kidAt ks k).kind) ∧ Z.cell? ⟨bk, ok + k * 4 + 1, none⟩ = some (.string (kidAt ks k).name) ∧ Z.cell? ⟨bk, ok + k * 4 + 2, none⟩ = some (.slice an2 ln2 cn2) ∧ Z.cell? ⟨bk, ok + k * 4 + 3, none⟩ = some (.slice ak2 lk2 ck2)) := fun Z hZ => by
                  have hq : bk < Y.heap.size := World.block_lt_of_cell? Y _ A0
                  exact ⟨(hZ.cell (p := ⟨w.heap.size + 1, 3, none⟩) (World.block_lt_of_cell? Y _ y3)).trans y3, (hZ.cell (p := ⟨bk, ok + k * 4, none⟩) hq).trans A0, (hZ.cell (p := ⟨bk, ok + k * 4 + 1, none⟩) hq).trans A1, (hZ.cell (p := ⟨bk, ok + k * 4 + 2, none⟩) hq).trans A2, (hZ.cell (p := ⟨bk, ok + k * 4 + 3, none⟩) hq).trans A3⟩
                have hk40 : (0 : Int) ≤ (k : Int) := by omega
                have HK1 : Hid (∀ Z : World, Below Y.heap.size Y Z → ∀ j u, ((flatK (qs.map (kidAt ks)) ls).take (a * 4))[j]? = some u → Z.cell? ((⟨gK, 0, none⟩ : Addr).add j) = some u) := fun Z hZ => own_take oK hZ (a * 4)
                obtain ⟨D2, hD2, HK2⟩ : ∃ D2 : Addr, (if cK = a then some (⟨gK, 0, none⟩ : Addr) else some ⟨gK, a * 4, none⟩) = some D2 ∧ Hid (∀ Z : World, Below Y.heap.size Y Z → ∀ j u, ((flatK (qs.map (kidAt ks)) ls).drop (a * 4))[j]? = some u → Z.cell? (D2.add j) = some u) := by
                  by_cases c : cK = a
                  · refine ⟨_, if_pos c, fun Z hZ j u hu => ?_⟩
                    have := (List.getElem?_eq_some_iff.1 hu).1
                    have := oK.1
                    rw [List.length_drop] at *
                    omega
                  · exact ⟨_, if_neg c, fun Z hZ => own_drop oK hZ (a * 4)⟩
                have kl1 : ((flatK (qs.map (kidAt ks)) ls).take (a * 4)).length = a * 4 := by have := oK.1; rw [List.length_take]; omega
                have kl2 : ((flatK (qs.map (kidAt ks)) ls).drop (a * 4)).length = (k - a) * 4 := by have := oK.1; rw [List.length_drop]; omega
                have hone : ∀ u ∈ flatK (qs.map (kidAt ks)) ls, u.oneCell' = true := flatK_one _ _ fun l hl => by
                  obtain ⟨j, hj, rfl⟩ := List.getElem_of_mem hl
                  exact lay_slices (HM.out.lay j hj (by have := HM.out.len; omega)).1
                have k11 : ∀ u ∈ (flatK (qs.map (kidAt ks)) ls).take (a * 4), u.oneCell' = true := fun u hu => hone u (List.mem_of_mem_take hu)
                have k12 : ∀ u ∈ (flatK (qs.map (kidAt ks)) ls).drop (a * 4), u.oneCell' = true := fun u hu => hone u (List.mem_of_mem_drop hu)
                clear hcl ee A0 A1 A2 A3 y3 hone hta hbu onU
                refine NoPanic.normal ?_
                go_simp
                go_wp2_with fail
                refine wp_region_noPanic ?_
                refine wp_region_till (fun w' => w'.cell? ⟨w.heap.size + 1, 3, none⟩ = some (.slice (some ⟨gK, 0, none⟩) k cK) ∧ w'.cell? ⟨bk, ok + k * 4, none⟩ = some (.int .i64 (kidAt ks k).kind) ∧ w'.cell? ⟨bk, ok + k * 4 + 1, none⟩ = some (.string (kidAt ks k).name) ∧ w'.cell? ⟨bk, ok + k * 4 + 2, none⟩ = some (.slice an2 ln2 cn2) ∧ w'.cell? ⟨bk, ok + k * 4 + 3, none⟩ = some (.slice ak2 lk2 ck2)) 19 (by kernel_rfl) ?_
                refine wpTill.take (i := 1) (v := ?_) rfl rfl (by kernel_rfl) (by kernel_rfl) (by kernel_rfl) (by kernel_rfl) (fun _ _ _ h => h) (Or.inl ⟨by rfl, ?_⟩) hSY ?_
                rotate_left
                · intro w9 hs9
                  obtain ⟨s0, s1, s2, s3, s4⟩ := hs9
                  go_simp
                  try rfl
                refine wpTill.take (i := 2) (v := ?_) rfl rfl (by kernel_rfl) (by kernel_rfl) (by kernel_rfl) (by kernel_rfl) (fun _ _ _ h => h) (Or.inl ⟨by rfl, ?_⟩) hSY ?_
                rotate_left
                · intro w9 hs9
                  obtain ⟨s0, s1, s2, s3, s4⟩ := hs9
                  go_simp
                  try rfl
                refine wpTill.take (i := 3) (v := ?_) rfl rfl (by kernel_rfl) (by kernel_rfl) (by kernel_rfl) (by kernel_rfl) (fun _ _ _ h => h) (Or.inl ⟨by rfl, ?_⟩) hSY ?_
                rotate_left
                · intro w9 hs9
                  obtain ⟨s0, s1, s2, s3, s4⟩ := hs9
                  go_simp
                  try rfl
                refine wpTill.take (i := 4) (v := ?_) rfl rfl (by kernel_rfl) (by kernel_rfl) (by kernel_rfl) (by kernel_rfl) (fun _ _ _ h => h) (Or.inl ⟨by rfl, ?_⟩) hSY ?_
                rotate_left
                · intro w9 hs9
                  obtain ⟨s0, s1, s2, s3, s4⟩ := hs9
                  go_simp
                  try rfl
                refine wpTill.take (i := 6) (v := ?_) rfl rfl (by kernel_rfl) (by kernel_rfl) (by kernel_rfl) (by kernel_rfl) (fun _ _ _ h => h) (Or.inl ⟨by rfl, ?_⟩) hSY ?_
                rotate_left
                · intro w9 hs9
                  obtain ⟨s0, s1, s2, s3, s4⟩ := hs9
                  go_simp
                  try rfl
                refine wpTill.take (i := 7) (v := ?_) rfl rfl (by kernel_rfl) (by kernel_rfl) (by kernel_rfl) (by kernel_rfl) (fun _ _ _ h => h) (Or.inl ⟨by rfl, ?_⟩) hSY ?_
                rotate_left
                · intro w9 hs9
                  obtain ⟨s0, s1, s2, s3, s4⟩ := hs9
                  go_simp
                  try rfl
                refine wpTill.take (i := 8) (v := ?_) rfl rfl (by kernel_rfl) (by kernel_rfl) (by kernel_rfl) (by kernel_rfl) (fun _ _ _ h => h) (Or.inl ⟨by rfl, ?_⟩) hSY ?_
                rotate_left
                · intro w9 hs9
                  obtain ⟨s0, s1, s2, s3, s4⟩ := hs9
                  go_simp
                  try rfl
                refine wpTill.take (i := 9) (v := ?_) rfl rfl (by kernel_rfl) (by kernel_rfl) (by kernel_rfl) (by kernel_rfl) (fun _ _ _ h => h) (Or.inl ⟨by rfl, ?_⟩) hSY ?_
                rotate_left
                · intro w9 hs9
                  obtain ⟨s0, s1, s2, s3, s4⟩ := hs9
                  go_simp
                  try rfl
                refine wpTill.take (i := 13) (v := ?_) rfl rfl (by kernel_rfl) (by kernel_rfl) (by kernel_rfl) (by kernel_rfl) (fun _ _ _ h => h) (Or.inl ⟨by rfl, ?_⟩) hSY ?_
                rotate_left
                · intro w9 hs9
                  obtain ⟨s0, s1, s2, s3, s4⟩ := hs9
                  go_simp
                  try rfl
                refine wpTill.take (i := 14) (v := ?_) rfl rfl (by kernel_rfl) (by kernel_rfl) (by kernel_rfl) (by kernel_rfl) (fun _ _ _ h => h) (Or.inl ⟨by rfl, ?_⟩) hSY ?_
                rotate_left
                · intro w9 hs9
                  obtain ⟨s0, s1, s2, s3, s4⟩ := hs9
                  go_simp
                  try rfl
                refine wpTill.take (i := 15) (v := ?_) rfl rfl (by kernel_rfl) (by kernel_rfl) (by kernel_rfl) (by kernel_rfl) (fun _ _ _ h => h) (Or.inl ⟨by rfl, ?_⟩) hSY ?_
                rotate_left
                · intro w9 hs9
                  obtain ⟨s0, s1, s2, s3, s4⟩ := hs9
                  go_simp
                  try rfl
                refine wpTill.take (i := 16) (v := ?_) rfl rfl (by kernel_rfl) (by kernel_rfl) (by kernel_rfl) (by kernel_rfl) (fun _ _ _ h => h) (Or.inl ⟨by rfl, ?_⟩) hSY ?_
                rotate_left
                · intro w9 hs9
                  obtain ⟨s0, s1, s2, s3, s4⟩ := hs9
                  go_simp
                  try rfl
                go_simp
                refine wpTill.ready (rs := [0]) (by kernel_rfl) (by simp) ?_
                intro i9 hi9
                simp only [List.mem_cons, List.not_mem_nil, or_false] at hi9
                subst hi9
                refine wpOp_of rfl (step_open (by rfl) ?_)
                go_simp
                have hb0 : Below Y.heap.size Y ((Y.alloc (.cells #[] 28)).drew) := ((Below.refl _ _).alloc (Nat.le_refl _) _).drew
                have e0 : ((Y.alloc (.cells #[] 28)).drew).heap[Y.heap.size]? = some (.cells #[] 28 (0, 0)) := (MapKept.heap_alloc Y _).1
                refine ⟨HSY.out _ ((Below.refl _ _).alloc (Nat.le_refl _) _), ?_⟩
                generalize ((Y.alloc (.cells #[] 28)).drew) = Y0 at *
                refine wpTill.ready (rs := [5]) (by kernel_rfl) (by simp) ?_
                intro i9 hi9
                simp only [List.mem_cons, List.not_mem_nil, or_false] at hi9
                subst hi9
                refine wpOp_of rfl (step_append_own (by rfl) (.tmp 59) (.tmp 63) 24 rfl Y.heap.size 28 i0 _ 4 72 Tryz.underlying24 hi0 hz0 hz1 hz2 rfl (by decide) (.slice (some ⟨Y.heap.size, 0, none⟩) 0 0) 0 [] (by rfl) (own_empty4Q e0 (Nat.le_refl _)) ⟨gK, 0, none⟩ a cK _ (by rfl) kl1 (HK1.out _ hb0) k11 (by unfold maxLen; omega) (by omega) hb0.size ?_)
                intro v5 w5 o5' g5 _
                have o5 : w5.ownsRow Y.heap.size 28 4 v5 a ((flatK (qs.map (kidAt ks)) ls).take (a * 4)) := by simpa using o5'
                have hb5 : Below Y.heap.size Y w5 := hb0.grown g5 hb0.size (fun j hj => by simp [Value.ownBlock] at hj; omega)
                clear o5' g5 e0 hb0
                refine ⟨fun _ => HSY.out _ hb5, ?_⟩
                go_simp
                refine wpTill.ready (rs := [10]) (by kernel_rfl) (by simp) ?_
                intro i9 hi9
                simp only [List.mem_cons, List.not_mem_nil, or_false] at hi9
                subst hi9
                have hbw5 : Below w.heap.size w w5 := hbwY.trans (hb5.mono HYZ.out.2)
                refine wpOp_of rfl (step_open (by rfl) ?_)
                go_simp
                go_at_call 35
                refine (HCP.out _ hbw5).mono ?_
                rintro e w6 ⟨an3, cn3, ak3, ck3, rfl, ⟨l, ecl, hnl⟩, hb6'⟩
                have o6 := kept_belowT o5 hb6'
                have hb6 := hb5.trans (hb6'.mono hb5.size)
                have hnl6 : NewLay w5.heap.size w6 n l (kidAt ks k) := hnl
                have hfar : ∀ b, v5.ownBlock = some b → b < w5.heap.size := fun b e => (o5.lt b e).2
                have hY5 := hb5.size
                clear hnl hb6' o5 hbw5 hb5
                refine ⟨HSY.out _ hb6, ?_⟩
                go_simp
                refine wpTill.ready (rs := [11]) (by kernel_rfl) (by simp) ?_
                intro i9 hi9
                simp only [List.mem_cons, List.not_mem_nil, or_false] at hi9
                subst hi9
                refine wpOp_of rfl (step_open (by rfl) ?_)
                go_simp
                have hb7 : Below Y.heap.size Y (w6.alloc (.cells #[.int .i64 (kidAt ks k).kind, .string (kidAt ks k).name, .slice an3 (kidAt ks k).names.length cn3, .slice ak3 (kidAt ks k).kids.length ck3] 28)) := hb6.alloc hb6.size _
                have o7 := o6.alloc (.cells #[.int .i64 (kidAt ks k).kind, .string (kidAt ks k).name, .slice an3 (kidAt ks k).names.length cn3, .slice ak3 (kidAt ks k).kids.length ck3] 28)
                have n7 := World.news_of_block (cs := #[.int .i64 (kidAt ks k).kind, .string (kidAt ks k).name, .slice an3 (kidAt ks k).names.length cn3, .slice ak3 (kidAt ks k).kids.length ck3]) (t := 28) (fr := (0, 0)) (heap_alloc_new w6 _)
                have hnl7 := hnl6.below ((Below.refl _ w6).alloc (Nat.le_refl _) (.cells #[.int .i64 (kidAt ks k).kind, .string (kidAt ks k).name, .slice an3 (kidAt ks k).names.length cn3, .slice ak3 (kidAt ks k).kids.length ck3] 28))
                refine ⟨HSY.out _ hb7, ?_⟩
                clear o6 hb6 hnl6
                generalize (w6.alloc (.cells #[.int .i64 (kidAt ks k).kind, .string (kidAt ks k).name, .slice an3 (kidAt ks k).names.length cn3, .slice ak3 (kidAt ks k).kids.length ck3] 28)) = Z at *
                refine wpTill.ready (rs := [12]) (by kernel_rfl) (by simp) ?_
                intro i9 hi9
                simp only [List.mem_cons, List.not_mem_nil, or_false] at hi9
                subst hi9
                refine wpOp_of rfl (step_append_lies _ (by rfl) (.tmp 64) (.tmp 70) 24 (by rfl) Y.heap.size 28 i0 _ 4 72 Tryz.underlying24 hi0 hz0 hz1 hz2 rfl (by decide) v5 a _ (by rfl) o7 ⟨w6.heap.size, 0, none⟩ 1 1 [.int .i64 (kidAt ks k).kind, .string (kidAt ks k).name, .slice an3 (kidAt ks k).names.length cn3, .slice ak3 (kidAt ks k).kids.length ck3] (by rfl) rfl n7 (by simp [Value.oneCell']) (by omega) (by unfold maxLen; omega) (by omega) hb7.size Z.heap.size rfl ?_)
                intro gg gc w11 o11 g11 hat hlt11
                have hb11 : Below Y.heap.size Y w11 := hb7.grown g11 hb7.size (fun j hj => (o7.lt j hj).1)
                have hne7 : ∀ b ∈ Lay.blocks n l, b < Z.heap.size ∧ v5.ownBlock ≠ some b := fun b hb => ⟨hnl7.1.lt hb, fun e => by have := hfar b e; have := hnl7.2.2 b hb; omega⟩
                have hnl11 : LayAt w11 n l (kidAt ks k) := hnl7.1.same fun b hb => g11.block b (hne7 b hb).1 (fun e => (hne7 b hb).2 e.symm)
                have hgg : ∀ b ∈ Lay.blocks n l, gg ≠ b := fun b hb e => by
                  rcases hat with h | h
                  · exact (hne7 b hb).2 (e ▸ h)
                  · have := (hne7 b hb).1; omega
                refine ⟨fun _ => HSY.out _ hb11, ?_⟩
                clear g11 n7 o7 hb7 hat
                go_simp
                refine wpTill.ready (rs := [17]) (by kernel_rfl) (by simp) ?_
                intro i9 hi9
                simp only [List.mem_cons, List.not_mem_nil, or_false] at hi9
                subst hi9
                refine wpOp_of rfl (step_append_own (by rfl) (.tmp 71) (.tmp 75) 24 rfl Y.heap.size 28 i0 _ 4 72 Tryz.underlying24 hi0 hz0 hz1 hz2 rfl (by decide) (.slice (some ⟨gg, 0, none⟩) (a + 1) gc) (a + 1) _ (by rfl) o11 D2 (k - a) (cK - a) _ (by rw [← hD2]; rfl) kl2 (HK2.out _ hb11) k12 (by unfold maxLen; omega) (by omega) hb11.size ?_)
                intro v16 w16 o16' g16 _
                have hb16 : Below Y.heap.size Y w16 := hb11.grown g16 hb11.size (fun j hj => (o11.lt j hj).1)
                have hnl16 : LayAt w16 n l (kidAt ks k) := hnl11.same fun b hb => g16.block b (hnl11.lt hb) (fun e => hgg b hb (Option.some.inj e).symm)
                have hlb16 : ∀ b ∈ Lay.blocks n l, Y.heap.size ≤ b := fun b hb => Nat.le_trans hY5 (hnl7.2.2 b hb)
                refine ⟨fun _ => HSY.out _ hb16, ?_⟩
                clear g16
                rw [show a + 1 + (k - a) = k + 1 from by omega] at o16'
                obtain ⟨a16, c16, e16⟩ := slice_ownM o16'
                subst e16
                have hTY : w.heap.size + 1 < Y.heap.size := (Array.getElem?_eq_some_iff.1 bY).1
                have hbox : w16.heap[w.heap.size + 1]? = _ := (hb16.block (w.heap.size + 1) hTY).trans bY
                obtain ⟨⟨t0, t1, t2, t3⟩, tf⟩ := block4 hbox
                have tf2 := tf 3
                clear tf
                go_simp
                refine wpTill.ready (rs := [18]) (by kernel_rfl) (by simp) ?_
                intro i9 hi9
                simp only [List.mem_cons, List.not_mem_nil, or_false] at hi9
                subst hi9
                refine wpOp_of rfl (step_open (by rfl) ?_)
                go_simp
                refine ⟨by first | exact HSY.out _ hb16 | exact (HSY.out _ hb16).2, ?_⟩
                refine wpTill.ready (rs := [19]) (by kernel_rfl) (by simp) ?_
                intro i9 hi9
                simp only [List.mem_cons, List.not_mem_nil, or_false] at hi9
                subst hi9
                refine wpOp_of rfl (step_open (by rfl) ?_)
                go_simp
                refine wpTill.done (by kernel_rfl) ?_ _
                refine NoPanic.normal ?_
                have R1 : RecM W1 (w16.setCell ⟨w.heap.size + 1, 3, none⟩ (.slice a16 (k + 1) c16)) (w.heap.size + 1) n nms ks (k + 1) (qs.take a ++ [k] ++ qs.drop a) (.slice aa (k + 1) cc) (.slice a16 (k + 1) c16) (ls.take a ++ [l] ++ ls.drop a) := by
                  refine HM.out.ins (by omega) (heap_setCell_same w16 _ 3 _ _ _ hbox) ?_ ?_ (hnl16.same fun b hb => Below.heap_setCell _ _ _ _ (fun e => by have := hlb16 b hb; simp only at e; omega)) (fun b hb => Nat.le_trans HYZ.out.1 (hlb16 b hb)) (((OnlyL.of_below hUX).trans onY).trans ((OnlyL.of_below hb16).trans (OnlyL.set _ _ _ (by simp)))) HORD.out.1 HORD.out.2
                  · rw [HZK.out]; exact owns_other (own_base (kept_belowT oY hb16) hWX) HM.out.lt
                  · rw [ecl]; exact owns_other (own_base o16' HYZ.out.1) HM.out.lt
                have HR1 : Hid (type_of% R1) := R1
                clear R1 t0 t1 t2 t3 tf2 o16' o11 hb16 hb11 hbox hSY HSY HSX hS0
                go_wp2_with fail
                go_roundw
                case rel => exact ⟨k + 1, _, _, _, _, by omega, by go_num, HR1.out⟩
                case measure => simp [intOf]; omega
              intro KONT
              refine wpTill.ready (rs := [0, 10]) (by kernel_rfl) (by simp) ?_
              intro i9 hi9
              simp only [List.mem_cons, List.not_mem_nil, or_false] at hi9
              rcases hi9 with rfl | rfl
              · refine wpOp_of rfl (step_open (by rfl) ?_)
                go_simp
                have hb0 : Below X.heap.size X ((X.alloc (.cells #[] 9)).drew) := ((Below.refl _ _).alloc (Nat.le_refl _) _).drew
                have e0 : ((X.alloc (.cells #[] 9)).drew).heap[X.heap.size]? = some (.cells #[] 9 (0, 0)) := (MapKept.heap_alloc X _).1
                refine ⟨HSX.out _ ((Below.refl _ _).alloc (Nat.le_refl _) _), ?_⟩
                generalize ((X.alloc (.cells #[] 9)).drew) = X0 at *
                refine wpTill.ready (rs := [5, 10]) (by kernel_rfl) (by simp) ?_
                intro i9 hi9
                simp only [List.mem_cons, List.not_mem_nil, or_false] at hi9
                rcases hi9 with rfl | rfl
                · refine wpOp_of rfl (step_append_own (by rfl) (.tmp 41) (.tmp 45) 26 rfl X.heap.size 9 j0 (.string ⟨#[]⟩) 1 16 Tryz.underlying26 hj0 hy0 hy1 hy2 rfl (by decide) (.slice (some ⟨X.heap.size, 0, none⟩) 0 0) 0 [] (by rfl) (own_empty e0 (Nat.le_refl _)) ⟨g, 0, none⟩ a cN _ (by rfl) hl1 (HN1.out _ hb0) h11 (by unfold maxLen; omega) (by omega) hb0.size ?_)
                  intro v5 w5 o5' g5 _
                  have o5 : w5.ownsRow X.heap.size 9 1 v5 a ((strV (qs.map (nameAt nms))).take a) := by simpa using o5'
                  have hb5 : Below X.heap.size X w5 := hb0.grown g5 hb0.size (fun j hj => by simp [Value.ownBlock] at hj; omega)
                  clear o5'
                  refine ⟨fun _ => HSX.out _ hb5, ?_⟩
                  go_simp
                  refine wpTill.ready (rs := [10]) (by kernel_rfl) (by simp) ?_
                  intro i9 hi9
                  simp only [List.mem_cons, List.not_mem_nil, or_false] at hi9
                  subst hi9
                  refine wpOp_of rfl (step_open (by rfl) ?_)
                  go_simp
                  have hbZ : Below X.heap.size X (w5.alloc (.cells #[.string z] 9)) := hb5.alloc hb5.size _
                  have c10 : (w5.alloc (.cells #[.string z] 9)).cell? ⟨w5.heap.size, 0, none⟩ = some (.string z) := by rw [cellNew _ rfl]; rfl
                  have oZ := o5.alloc (.cells #[.string z] 9)
                  refine ⟨HSX.out _ hbZ, ?_⟩
                  generalize (w5.alloc (.cells #[.string z] 9)) = Z at *
                  refine wpTill.ready (rs := [11]) (by kernel_rfl) (by simp) ?_
                  intro i9 hi9
                  simp only [List.mem_cons, List.not_mem_nil, or_false] at hi9
                  subst hi9
                  refine wpOp_of rfl (step_append_own (by rfl) (.tmp 46) (.tmp 51) 26 rfl X.heap.size 9 j0 (.string ⟨#[]⟩) 1 16 Tryz.underlying26 hj0 hy0 hy1 hy2 rfl (by decide) v5 a _ (by rfl) oZ ⟨w5.heap.size, 0, none⟩ 1 1 [.string z] (by rfl) rfl (cell_oneR c10) (fun u hu => by simp only [List.mem_singleton] at hu; subst hu; rfl) (by unfold maxLen; omega) (by omega) hbZ.size ?_)
                  intro v11 w11 o11 g11 _
                  have hb11 : Below X.heap.size X w11 := hbZ.grown g11 hbZ.size (fun j hj => (oZ.lt j hj).1)
                  refine ⟨fun _ => HSX.out _ hb11, ?_⟩
                  clear g11
                  go_simp
                  refine wpTill.ready (rs := [16]) (by kernel_rfl) (by simp) ?_
                  intro i9 hi9
                  simp only [List.mem_cons, List.not_mem_nil, or_false] at hi9
                  subst hi9
                  refine wpOp_of rfl (step_append_own (by rfl) (.tmp 52) (.tmp 56) 26 rfl X.heap.size 9 j0 (.string ⟨#[]⟩) 1 16 Tryz.underlying26 hj0 hy0 hy1 hy2 rfl (by decide) v11 (a + 1) _ (by rfl) o11 D (k - a) (cN - a) _ (by rw [← hD]; rfl) hl2 (HN2.out _ hb11) h12 (by unfold maxLen; omega) (by omega) hb11.size ?_)
                  intro v16 w16 o16' g16 _
                  have hb16 : Below X.heap.size X w16 := hb11.grown g16 hb11.size (fun j hj => (o11.lt j hj).1)
                  refine ⟨fun _ => HSX.out _ hb16, ?_⟩
                  clear g16
                  rw [show a + 1 + (k - a) = k + 1 from by omega] at o16'
                  obtain ⟨a16, c16, e16⟩ := slice_ownM o16'
                  subst e16
                  have hbox : w16.heap[w.heap.size + 1]? = _ := (hb16.block (w.heap.size + 1) (Nat.lt_of_lt_of_le lt1 hUX.size)).trans ((hUX.block _ lt1).trans HM.out.box)
                  obtain ⟨⟨t0, t1, t2, t3⟩, tf⟩ := block4 hbox
                  have tf2 := tf 2
                  clear tf
                  go_simp
                  refine wpTill.ready (rs := [17]) (by kernel_rfl) (by simp) ?_
                  intro i9 hi9
                  simp only [List.mem_cons, List.not_mem_nil, or_false] at hi9
                  subst hi9
                  refine wpOp_of rfl (step_open (by rfl) ?_)
                  go_simp
                  refine ⟨by first | exact HSX.out _ hb16 | exact (HSX.out _ hb16).2, ?_⟩
                  refine wpTill.ready (rs := [18]) (by kernel_rfl) (by simp) ?_
                  intro i9 hi9
                  simp only [List.mem_cons, List.not_mem_nil, or_false] at hi9
                  subst hi9
                  refine wpOp_of rfl (step_open (by rfl) ?_)
                  go_simp
                  refine wpTill.done (by kernel_rfl) ?_ _
                  refine act_eq (KONT.out (.slice (some ⟨X.heap.size, 0, none⟩) 0 0) v5 (.slice (some ⟨w5.heap.size, 0, none⟩) 1 1) v11 (.slice a16 (k + 1) c16) (.pointer (some ⟨w.heap.size + 1, 2, none⟩)) _ ⟨a16, c16, rfl, ?_, heap_setCell_same w16 _ 2 _ _ _ hbox, (OnlyL.of_below hb16).trans (OnlyL.set _ _ _ (by simp))⟩) (by kernel_rfl)
                  exact owns_other o16' (Nat.lt_of_lt_of_le lt1 hUX.size)
                · refine wpOp_of rfl (step_open (by rfl) ?_)
                  go_simp
                  have hbZ : Below X.heap.size X (X0.alloc (.cells #[.string z] 9)) := hb0.alloc hb0.size _
                  have c10 : (X0.alloc (.cells #[.string z] 9)).cell? ⟨X0.heap.size, 0, none⟩ = some (.string z) := by rw [cellNew _ rfl]; rfl
                  have e1 : (X0.alloc (.cells #[.string z] 9)).heap[X.heap.size]? = some (.cells #[] 9 (0, 0)) := ((MapKept.heap_alloc X0 _).2 _ (Array.getElem?_eq_some_iff.1 e0).1).trans e0
                  have hz1 : X0.heap.size < (X0.alloc (.cells #[.string z] 9)).heap.size := by simp
                  have hne : X0.heap.size ≠ X.heap.size := fun e => by have := (Array.getElem?_eq_some_iff.1 e0).1; omega
                  refine ⟨HSX.out _ hbZ, ?_⟩
                  generalize (X0.alloc (.cells #[.string z] 9)) = Z at *
                  refine wpTill.ready (rs := [5]) (by kernel_rfl) (by simp) ?_
                  intro i9 hi9
                  simp only [List.mem_cons, List.not_mem_nil, or_false] at hi9
                  subst hi9
                  refine wpOp_of rfl (step_append_own (by rfl) (.tmp 41) (.tmp 45) 26 rfl X.heap.size 9 j0 (.string ⟨#[]⟩) 1 16 Tryz.underlying26 hj0 hy0 hy1 hy2 rfl (by decide) (.slice (some ⟨X.heap.size, 0, none⟩) 0 0) 0 [] (by rfl) (own_empty e1 (Nat.le_refl _)) ⟨g, 0, none⟩ a cN _ (by rfl) hl1 (HN1.out _ hbZ) h11 (by unfold maxLen; omega) (by omega) hbZ.size ?_)
                  intro v5 w5 o5' g5 _
                  have o5 : w5.ownsRow X.heap.size 9 1 v5 a ((strV (qs.map (nameAt nms))).take a) := by simpa using o5'
                  have hb5 : Below X.heap.size X w5 := hbZ.grown g5 hbZ.size (fun j hj => by simp [Value.ownBlock] at hj; omega)
                  clear o5'
                  refine ⟨fun _ => HSX.out _ hb5, ?_⟩
                  go_simp
                  have c5 := (World.cell?_of_block (a := ⟨X0.heap.size, 0, none⟩) (g5.block X0.heap.size hz1 (by simp only [Value.ownBlock]; intro e; exact hne (Option.some.inj e)))).trans c10
                  refine wpTill.ready (rs := [11]) (by kernel_rfl) (by simp) ?_
                  intro i9 hi9
                  simp only [List.mem_cons, List.not_mem_nil, or_false] at hi9
                  subst hi9
                  refine wpOp_of rfl (step_append_own (by rfl) (.tmp 46) (.tmp 51) 26 rfl X.heap.size 9 j0 (.string ⟨#[]⟩) 1 16 Tryz.underlying26 hj0 hy0 hy1 hy2 rfl (by decide) v5 a _ (by rfl) o5 ⟨X0.heap.size, 0, none⟩ 1 1 [.string z] (by rfl) rfl (cell_oneR c5) (fun u hu => by simp only [List.mem_singleton] at hu; subst hu; rfl) (by unfold maxLen; omega) (by omega) hb5.size ?_)
                  intro v11 w11 o11 g11 _
                  have hb11 : Below X.heap.size X w11 := hb5.grown g11 hb5.size (fun j hj => (o5.lt j hj).1)
                  refine ⟨fun _ => HSX.out _ hb11, ?_⟩
                  clear g11
                  go_simp
                  refine wpTill.ready (rs := [16]) (by kernel_rfl) (by simp) ?_
                  intro i9 hi9
                  simp only [List.mem_cons, List.not_mem_nil, or_false] at hi9
                  subst hi9
                  refine wpOp_of rfl (step_append_own (by rfl) (.tmp 52) (.tmp 56) 26 rfl X.heap.size 9 j0 (.string ⟨#[]⟩) 1 16 Tryz.underlying26 hj0 hy0 hy1 hy2 rfl (by decide) v11 (a + 1) _ (by rfl) o11 D (k - a) (cN - a) _ (by rw [← hD]; rfl) hl2 (HN2.out _ hb11) h12 (by unfold maxLen; omega) (by omega) hb11.size ?_)
                  intro v16 w16 o16' g16 _
                  have hb16 : Below X.heap.size X w16 := hb11.grown g16 hb11.size (fun j hj => (o11.lt j hj).1)
                  refine ⟨fun _ => HSX.out _ hb16, ?_⟩
                  clear g16
                  rw [show a + 1 + (k - a) = k + 1 from by omega] at o16'
                  obtain ⟨a16, c16, e16⟩ := slice_ownM o16'
                  subst e16
                  have hbox : w16.heap[w.heap.size + 1]? = _ := (hb16.block (w.heap.size + 1) (Nat.lt_of_lt_of_le lt1 hUX.size)).trans ((hUX.block _ lt1).trans HM.out.box)
                  obtain ⟨⟨t0, t1, t2, t3⟩, tf⟩ := block4 hbox
                  have tf2 := tf 2
                  clear tf
                  go_simp
                  refine wpTill.ready (rs := [17]) (by kernel_rfl) (by simp) ?_
                  intro i9 hi9
                  simp only [List.mem_cons, List.not_mem_nil, or_false] at hi9
                  subst hi9
                  refine wpOp_of rfl (step_open (by rfl) ?_)
                  go_simp
                  refine ⟨by first | exact HSX.out _ hb16 | exact (HSX.out _ hb16).2, ?_⟩
                  refine wpTill.ready (rs := [18]) (by kernel_rfl) (by simp) ?_
                  intro i9 hi9
                  simp only [List.mem_cons, List.not_mem_nil, or_false] at hi9
                  subst hi9
                  refine wpOp_of rfl (step_open (by rfl) ?_)
                  go_simp
                  refine wpTill.done (by kernel_rfl) ?_ _
                  refine act_eq (KONT.out (.slice (some ⟨X.heap.size, 0, none⟩) 0 0) v5 (.slice (some ⟨X0.heap.size, 0, none⟩) 1 1) v11 (.slice a16 (k + 1) c16) (.pointer (some ⟨w.heap.size + 1, 2, none⟩)) _ ⟨a16, c16, rfl, ?_, heap_setCell_same w16 _ 2 _ _ _ hbox, (OnlyL.of_below hb16).trans (OnlyL.set _ _ _ (by simp))⟩) (by kernel_rfl)
                  exact owns_other o16' (Nat.lt_of_lt_of_le lt1 hUX.size)
              · refine wpOp_of rfl (step_open (by rfl) ?_)
                go_simp
                refine ⟨HSX.out _ ((Below.refl _ _).alloc (Nat.le_refl _) _), ?_⟩
                refine wpTill.ready (rs := [0]) (by kernel_rfl) (by simp) ?_
                intro i9 hi9
                simp only [List.mem_cons, List.not_mem_nil, or_false] at hi9
                subst hi9
                refine wpOp_of rfl (step_open (by rfl) ?_)
                go_simp
                have hbZ : Below X.heap.size X (((X.alloc (.cells #[.string z] 9)).alloc (.cells #[] 9)).drew) := (((Below.refl _ _).alloc (Nat.le_refl _) _).alloc (by simp) _).drew
                have e1 : (((X.alloc (.cells #[.string z] 9)).alloc (.cells #[] 9)).drew).heap[X.heap.size + 1]? = some (.cells #[] 9 (0, 0)) := heap_second X _ _
                have c10 : (((X.alloc (.cells #[.string z] 9)).alloc (.cells #[] 9)).drew).cell? ⟨X.heap.size, 0, none⟩ = some (.string z) := by
                  show ((X.alloc (.cells #[.string z] 9)).alloc (.cells #[] 9)).cell? ⟨X.heap.size, 0, none⟩ = _
                  simp only [World.cell?, heap_first X _ _]; rfl
                have hz1 : X.heap.size < (((X.alloc (.cells #[.string z] 9)).alloc (.cells #[] 9)).drew).heap.size := World.block_lt_of_cell? _ ⟨X.heap.size, 0, none⟩ c10
                refine ⟨HSX.out _ (((Below.refl _ _).alloc (Nat.le_refl _) _).alloc (by simp) _), ?_⟩
                generalize (((X.alloc (.cells #[.string z] 9)).alloc (.cells #[] 9)).drew) = Z at *
                refine wpTill.ready (rs := [5]) (by kernel_rfl) (by simp) ?_
                intro i9 hi9
                simp only [List.mem_cons, List.not_mem_nil, or_false] at hi9
                subst hi9
                refine wpOp_of rfl (step_append_own (by rfl) (.tmp 41) (.tmp 45) 26 rfl X.heap.size 9 j0 (.string ⟨#[]⟩) 1 16 Tryz.underlying26 hj0 hy0 hy1 hy2 rfl (by decide) (.slice (some ⟨X.heap.size + 1, 0, none⟩) 0 0) 0 [] (by rfl) (own_empty e1 (Nat.le_succ _)) ⟨g, 0, none⟩ a cN _ (by rfl) hl1 (HN1.out _ hbZ) h11 (by unfold maxLen; omega) (by omega) hbZ.size ?_)
                intro v5 w5 o5' g5 _
                have o5 : w5.ownsRow X.heap.size 9 1 v5 a ((strV (qs.map (nameAt nms))).take a) := by simpa using o5'
                have hb5 : Below X.heap.size X w5 := hbZ.grown g5 hbZ.size (fun j hj => by simp [Value.ownBlock] at hj; omega)
                clear o5'
                refine ⟨fun _ => HSX.out _ hb5, ?_⟩
                go_simp
                have c5 := (World.cell?_of_block (a := ⟨X.heap.size, 0, none⟩) (g5.block X.heap.size hz1 (by simp [Value.ownBlock]))).trans c10
                refine wpTill.ready (rs := [11]) (by kernel_rfl) (by simp) ?_
                intro i9 hi9
                simp only [List.mem_cons, List.not_mem_nil, or_false] at hi9
                subst hi9
                refine wpOp_of rfl (step_append_own (by rfl) (.tmp 46) (.tmp 51) 26 rfl X.heap.size 9 j0 (.string ⟨#[]⟩) 1 16 Tryz.underlying26 hj0 hy0 hy1 hy2 rfl (by decide) v5 a _ (by rfl) o5 ⟨X.heap.size, 0, none⟩ 1 1 [.string z] (by rfl) rfl (cell_oneR c5) (fun u hu => by simp only [List.mem_singleton] at hu; subst hu; rfl) (by unfold maxLen; omega) (by omega) hb5.size ?_)
                intro v11 w11 o11 g11 _
                have hb11 : Below X.heap.size X w11 := hb5.grown g11 hb5.size (fun j hj => (o5.lt j hj).1)
                refine ⟨fun _ => HSX.out _ hb11, ?_⟩
                clear g11
                go_simp
                refine wpTill.ready (rs := [16]) (by kernel_rfl) (by simp) ?_
                intro i9 hi9
                simp only [List.mem_cons, List.not_mem_nil, or_false] at hi9
                subst hi9
                refine wpOp_of rfl (step_append_own (by rfl) (.tmp 52) (.tmp 56) 26 rfl X.heap.size 9 j0 (.string ⟨#[]⟩) 1 16 Tryz.underlying26 hj0 hy0 hy1 hy2 rfl (by decide) v11 (a + 1) _ (by rfl) o11 D (k - a) (cN - a) _ (by rw [← hD]; rfl) hl2 (HN2.out _ hb11) h12 (by unfold maxLen; omega) (by omega) hb11.size ?_)
                intro v16 w16 o16' g16 _
                have hb16 : Below X.heap.size X w16 := hb11.grown g16 hb11.size (fun j hj => (o11.lt j hj).1)
                refine ⟨fun _ => HSX.out _ hb16, ?_⟩
                clear g16
                rw [show a + 1 + (k - a) = k + 1 from by omega] at o16'
                obtain ⟨a16, c16, e16⟩ := slice_ownM o16'
                subst e16
                have hbox : w16.heap[w.heap.size + 1]? = _ := (hb16.block (w.heap.size + 1) (Nat.lt_of_lt_of_le lt1 hUX.size)).trans ((hUX.block _ lt1).trans HM.out.box)
                obtain ⟨⟨t0, t1, t2, t3⟩, tf⟩ := block4 hbox
                have tf2 := tf 2
                clear tf
                go_simp
                refine wpTill.ready (rs := [17]) (by kernel_rfl) (by simp) ?_
                intro i9 hi9
                simp only [List.mem_cons, List.not_mem_nil, or_false] at hi9
                subst hi9
                refine wpOp_of rfl (step_open (by rfl) ?_)
                go_simp
                refine ⟨by first | exact HSX.out _ hb16 | exact (HSX.out _ hb16).2, ?_⟩
                refine wpTill.ready (rs := [18]) (by kernel_rfl) (by simp) ?_
                intro i9 hi9
                simp only [List.mem_cons, List.not_mem_nil, or_false] at hi9
                subst hi9
                refine wpOp_of rfl (step_open (by rfl) ?_)
                go_simp
                refine wpTill.done (by kernel_rfl) ?_ _
                refine act_eq (KONT.out (.slice (some ⟨X.heap.size + 1, 0, none⟩) 0 0) v5 (.slice (some ⟨X.heap.size, 0, none⟩) 1 1) v11 (.slice a16 (k + 1) c16) (.pointer (some ⟨w.heap.size + 1, 2, none⟩)) _ ⟨a16, c16, rfl, ?_, heap_setCell_same w16 _ 2 _ _ _ hbox, (OnlyL.of_below hb16).trans (OnlyL.set _ _ _ (by simp))⟩) (by kernel_rfl)
                exact owns_other o16' (Nat.lt_of_lt_of_le lt1 hUX.size)
      · have HKE : Hid (k = nms.length) := (by omega : k = nms.length)
        have hlf : ¬ (k : Int) < (nms.length : Int) := by omega
        have hld : decide ((k : Int) < (nms.length : Int)) = false := decide_eq_false hlf
        have hlay : LayAt wr (n + 1) (.mk (.slice aN k cN) (.slice aK k cK) ls) (recOf nms ks qs) := by
          have hn := OwnS.of hM.names
          have hk2 := OwnS.of hM.kids
          have hl1 := hM.len
          refine ⟨?_, by show ls.length = (qs.map (kidAt ks)).length; simp; omega, ?_, fun j h1 h2 => ?_⟩
          · show OwnS wr 9 1 (.slice aN k cN) (qs.map (nameAt nms)).length (strV (qs.map (nameAt nms)))
            rw [List.length_map, hl1.2]; exact hn
          · show OwnS wr 28 4 (.slice aK k cK) (qs.map (kidAt ks)).length (flatK (qs.map (kidAt ks)) ls)
            rw [List.length_map, hl1.2]; exact hk2
          · have h3 : j < qs.length := by have : j < (qs.map (kidAt ks)).length := h2; simpa using this
            have := (hM.lay j h1 h3).1
            have e : ((recOf nms ks qs).kids[j]'h2) = kidAt ks qs[j] := by simp [recOf]
            show LayAt wr n ls[j] _
            rw [e]; exact this
        have HVD : Hid ((recOf nms ks qs).kids = [] → (Lay.mk (.slice aN k cN) (.slice aK k cK) ls).vk = .slice none 0 0) := fun q => by
          have h0 : (qs.map (kidAt ks)).length = 0 := by
            have : qs.map (kidAt ks) = [] := q
            rw [this]; rfl
          rw [List.length_map, hM.len.2] at h0
          exact (hM.bare h0).2
        have hpm : qs.Perm (List.range nms.length) := by rw [← HKE.out]; exact hM.perm
        have hbl := hM.blocks
        have hsz : Ty.sized (n + 1) (recOf nms ks qs) := recOf_sized hpm HNE.out hlnm (fun x hx => by have := textsBulk_mem nms x hx; have := HBK.out; omega) HKS.out
        have hbu := recOf_bulk (n := n) (ks := ks) HNE.out hpm
        have HTY : Hid (Calls Tryz.prog 16 #[.agg #[.int .i64 5, .string ⟨#[]⟩, .slice aN k cN, .slice aK k cK]] wr fun e w' => e = .returned (.bool (decide (Right (n + 1) (recOf nms ks qs) 12))) ∧ Below wr.heap.size wr w') := specTypeOk (n + 1) _ _ wr (hlay.at hsz) (by rw [hbu]; exact HBK.out)
        have HYES : Hid (Right (n + 1) (recOf nms ks qs) 12 → RecAns n nms ks (recOf nms ks qs) true) := fun h => .inl ⟨rfl, HNE.out, qs, hpm, hM.ord, rfl, h⟩
        have HNO : Hid (¬ Right (n + 1) (recOf nms ks qs) 12 → RecAns n nms ks (.mk 0 ⟨#[]⟩ [] []) false) := fun h => .inr ⟨rfl, rfl, fun _ => ⟨qs, hpm, hM.ord, h⟩⟩
        have hrw : wr.heap[w.heap.size]? = _ := (hM.only.block w.heap.size (by omega) (by simp)).trans hr1
        have HLAY : Hid (type_of% hlay) := hlay
        have HBL : Hid (type_of% hbl) := hbl
        have lt0 : w.heap.size < wr.heap.size := by omega
        have lt1 : w.heap.size + 1 < wr.heap.size := by omega
        have lt2 : w.heap.size < W1.heap.size := by omega
        have tb := hM.box
        clear hM hpm hbl hsz hbu hlay HBK HNC HCC HCA HNE HKS HKE tf
        by_cases hR : Right (n + 1) (recOf nms ks qs) 12
        · rw [decide_eq_true hR] at HTY
          have HA : Hid (type_of% (HYES.out hR)) := HYES.out hR
          clear hR HYES HNO
          go_wp2_with fail
          refine HTY.out.mono ?_
          rintro e w3 ⟨rfl, hb3⟩
          have hbw3 : Below w.heap.size w w3 := hbw.trans (hb3.mono (by omega))
          have hr4 := (hb3.block w.heap.size lt0).trans hrw
          obtain ⟨⟨u0, u1, u2, u3⟩, _⟩ := block4 ((hb3.block (w.heap.size + 1) lt1).trans tb)
          obtain ⟨⟨rc0, rc1, rc2, rc3⟩, rf⟩ := block4 hr4
          have rf0 := rf 0
          have rf1 := rf 1
          have rf2 := rf 2
          have rf3 := rf 3
          have HLAY3 : Hid (type_of% (HLAY.out.below hb3)) := HLAY.out.below hb3
          clear rf hrw HTY HLAY tc0 tc1 tc2 tc3 tb hb3
          go_wp2_with fail
          refine ret_recS rfl rfl (put4T fun j hj => ?_) ⟨.mk (.slice aN k cN) (.slice aK k cK) ls, recOf nms ks qs, true, rfl, HA.out, ⟨HLAY3.out.same fun b hb => put_other (by have := HBL.out b hb; omega), fun b hb => by have := HBL.out b hb; omega⟩, put_below hbw3 (Nat.le_refl _), HVD.out⟩
          match j, hj with
          | 0, _ => rw [rc0]; rfl
          | 1, _ => rw [rc1]; rfl
          | 2, _ => rw [rc2]; rfl
          | 3, _ => rw [rc3]; rfl
        · rw [decide_eq_false hR] at HTY
          have HA : Hid (type_of% (HNO.out hR)) := HNO.out hR
          clear hR HYES HNO HLAY HBL
          go_wp2_with fail
          refine HTY.out.mono ?_
          rintro e w3 ⟨rfl, hb3⟩
          have hbw3 : Below w.heap.size w w3 := hbw.trans (hb3.mono (by omega))
          have hr4 := (hb3.block w.heap.size lt0).trans hrw
          obtain ⟨⟨rc0, rc1, rc2, rc3⟩, rf⟩ := block4 hr4
          have rf0 := rf 0
          have rf1 := rf 1
          have rf2 := rf 2
          have rf3 := rf 3
          clear rf hrw HTY tc0 tc1 tc2 tc3 tb hb3
          go_wp2_with fail
          refine ret_recS rfl rfl (put4T fun j hj => ?_) ⟨.mk (.slice none 0 0) (.slice none 0 0) [], .mk 0 ⟨#[]⟩ [] [], false, rfl, HA.out, plainLayS, put_below hbw3 (Nat.le_refl _), fun _ => rfl⟩
          match j, hj with
          | 0, _ => rw [rc0]; rfl
          | 1, _ => rw [rc1]; rfl
          | 2, _ => rw [rc2]; rfl
          | 3, _ => rw [rc3]; rfl
  · exact specRecNe n _ _ _ _ nms ks w hne

theorem specRecord (n : Nat) (vn vk : Value) (nms : List ByteArray) (ks : List Ty) (w : World) (hT : Texts w vn nms) (hrow : RowAt w (TyAt w n) vk ks) (hb : nms.length + Ty.textsBulk nms + rowBulk n ks ≤ 1048576) :
    Calls Tryz.prog 42 #[vn, vk] w fun e w' => ∃ (l : Lay) (t : Ty) (ok : Bool), e = .returned (.tuple #[.agg (cellsK t l).toArray, .bool ok]) ∧ RecAns n nms ks t ok ∧ (LayAt w' (n + 1) l t ∧ ∀ b ∈ Lay.blocks (n + 1) l, w.heap.size ≤ b) ∧ Below w.heap.size w w' := (specRecordN n vn vk nms ks w hT hrow hb).mono fun _ _ ⟨l, t, ok, h1, h2, h3, h4, _⟩ => ⟨l, t, ok, h1, h2, h3, h4⟩

end Go.Proofs.YthomlchbgcjcfaaGreatDoor
