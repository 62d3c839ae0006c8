/-
  The walk of spec.Record.
  The body of the law of Record, given spec.Record: the walk.
  At every list of names and every list of types impl.Record answers as the specification does, in memory of its own (the law itself passes lists that hold more than 1048576 by), and nothing that was there has turned. Its condition: impl's listed table of classes holds what the program's text lays into it, which the card ties to that text.
-/
import Derived.Test.YtekegcfelaefhaaDoorRecJ
import Derived.Test.YtekegcfelaefhaaDoorCards
import Derived.Test.YtekegcfelaefhaaDoorTie
import Derived.Test.YtekegcfelaefhaaDoorTyO
import Derived.Lib.LaidTab
import Derived.ProofKit
import Derived.OpenShut
import Derived.ShutString
import Derived.ChangeOld
import Derived.Deep.DeepHandedRow
import Derived.OpenVars
import Derived.ChangeVars
namespace Go.Proofs.YtekegcfelaefhaaDoor
open Go.RowKit

set_option maxHeartbeats 25600000 in
set_option maxRecDepth 100000 in
open Classical in
theorem specRecord (n : Nat) (vn vk : Value) (nms : List ByteArray) (ks : List Ty) (w : World) (hT : Texts w vn nms) (hrow : RowAt w (TyAt w n) vk ks) (hb : nms.length + Ty.textsBulk nms + rowBulk n ks ≤ 1048576) :
    Calls Tryd.prog 6 #[vn, vk] w fun e w' => ∃ (l : Lay) (t : Ty) (ok : Bool), e = .returned (.tuple #[.agg (cellsK t l).toArray, .bool ok]) ∧ RecAns n nms ks t ok ∧ (LayAt w' (n + 1) l t ∧ ∀ b ∈ Lay.blocks (n + 1) l, w.heap.size ≤ b) ∧ Below w.heap.size w w' := by
  obtain ⟨i0, hi0, hz0, hz1, hz2⟩ := info_parts Tryd.infoTypeT
  obtain ⟨j0, hj0, hy0, hy1, hy2⟩ := info_parts Tryd.infoString
  obtain ⟨C, ak, ck, rfl, hC, hCc⟩ := choose_cells hrow
  obtain ⟨an, cn, rfl, hnc⟩ := textsOpen hT
  have hlen : ks.length ≤ 1048576 := by unfold rowBulk at hb; omega
  by_cases hne : nms.length = ks.length
  · have hneI : ((nms.length : Int) == (ks.length : Int)) = true := by rw [beq_iff_eq]; omega
    have hneB : ((nms.length : Int) != (ks.length : Int)) = false := by rw [bne, hneI]; rfl
    have hlnm : nms.length ≤ 1048576 := by omega
    have hBW1 : Below w.heap.size w ((w.alloc (.cells #[.int .i64 0, .string ⟨#[]⟩, .slice none 0 0, .slice none 0 0] 28)).alloc (.cells #[.int .i64 5, .string ⟨#[]⟩, .slice none 0 0, .slice none 0 0] 28)) := ((Below.refl _ _).alloc (Nat.le_refl _) _).alloc (by simp) _
    have hr1 : ((w.alloc (.cells #[.int .i64 0, .string ⟨#[]⟩, .slice none 0 0, .slice none 0 0] 28)).alloc (.cells #[.int .i64 5, .string ⟨#[]⟩, .slice none 0 0, .slice none 0 0] 28)).heap[w.heap.size]? = some (.cells #[.int .i64 0, .string ⟨#[]⟩, .slice none 0 0, .slice none 0 0] 28) := heap_first w _ _
    have ht1 : ((w.alloc (.cells #[.int .i64 0, .string ⟨#[]⟩, .slice none 0 0, .slice none 0 0] 28)).alloc (.cells #[.int .i64 5, .string ⟨#[]⟩, .slice none 0 0, .slice none 0 0] 28)).heap[w.heap.size + 1]? = some (.cells #[.int .i64 5, .string ⟨#[]⟩, .slice none 0 0, .slice none 0 0] 28) := heap_second w _ _
    have hW1z : ((w.alloc (.cells #[.int .i64 0, .string ⟨#[]⟩, .slice none 0 0, .slice none 0 0] 28)).alloc (.cells #[.int .i64 5, .string ⟨#[]⟩, .slice none 0 0, .slice none 0 0] 28)).heap.size = w.heap.size + 1 + 1 := by simp
    have HNC : Hid (type_of% hnc) := hnc
    have HCC : Hid (type_of% hCc) := hCc
    have HCA : Hid (type_of% hC) := hC
    have HBK : Hid (type_of% hb) := hb
    have HNE : Hid (nms.length = ks.length) := hne
    have HKS : Hid (∀ q ∈ ks, Ty.sized n q) := row_sized hrow
    clear hC hCc hnc hT hrow hb hne
    go_enter Tryd.func6, Tryd.ntmps6
    go_wp2_with fail
    generalize ((w.alloc (.cells #[.int .i64 0, .string ⟨#[]⟩, .slice none 0 0, .slice none 0 0] 28)).alloc (.cells #[.int .i64 5, .string ⟨#[]⟩, .slice none 0 0, .slice none 0 0] 28)) = W1 at *
    have hzW1 : w.heap.size + 1 < W1.heap.size := by omega
    have hM0 : RecM W1 W1 (w.heap.size + 1) n nms ks 0 [] (.slice none 0 0) (.slice none 0 0) [] := ⟨ht1, World.ownsRow_nil _ _ _ _, World.ownsRow_nil _ _ _ _, ⟨rfl, rfl⟩, (fun j h1 _ => absurd h1 (by simp)), OnlyL.refl _ _, hzW1, List.Perm.refl _, (fun i j _ hj => absurd hj (by simp)), fun _ => ⟨rfl, rfl⟩⟩
    clear ht1 hW1z
    go_loopw [7] (fun i wr => ∃ (k : Nat) (qs : List Nat) (vN vK : Value) (ls : List Lay), k ≤ nms.length ∧ i = .int .i64 k ∧ RecM W1 wr (w.heap.size + 1) n nms ks k qs vN vK ls) (fun i _ => nms.length - (intOf i).toNat)
    case atStart => exact ⟨0, [], _, _, [], Nat.zero_le _, rfl, hM0⟩
    case round =>
      obtain ⟨k, qs, vN, vK, ls, hk, rfl, hM⟩ := hrel
      clear hM0
      have hzr := hM.only.size
      have hbw : Below w.heap.size w wr := hBW1.trans (hM.only.below (fun x hx => by simp only [List.mem_singleton] at hx; omega) (by omega))
      obtain ⟨aN, cN, hvN⟩ := slice_ownM hM.names
      obtain ⟨aK, cK, hvK⟩ := slice_ownM hM.kids
      subst hvN hvK
      have HM : Hid (type_of% hM) := hM
      obtain ⟨⟨tc0, tc1, tc2, tc3⟩, tf⟩ := block4 hM.box
      by_cases hlt : k < nms.length
      · obtain ⟨bn, on, rfl, n0⟩ := HNC.out k hlt
        have hbn : bn < w.heap.size := World.block_lt_of_cell? w ⟨bn, on + k, none⟩ n0
        have HQ : Hid (∀ j (hj : j < k), ∃ g, aN = some ⟨g, 0, none⟩ ∧ g < wr.heap.size ∧ wr.cell? ⟨g, j, none⟩ = some (.string (nameAt nms (qs.getD j 0)))) := fun j hj => by
          rcases hM.names.2 with ⟨_, h0⟩ | ⟨g, cap, cur, hv, hg, hh, _⟩
          · omega
          · simp only [Value.slice.injEq, true_and] at hv
            have ho := hM.names
            rw [hv.1] at ho
            refine ⟨g, hv.1, (Array.getElem?_eq_some_iff.1 hh).1, ?_⟩
            have hj2 : j < qs.length := by have := hM.len.2; omega
            rw [ho.cellAt j (by omega), strV_get _ j (by rw [List.length_map]; exact hj2), List.getElem_map]
            simp [List.getD, hj2]
        clear hM tf
        obtain ⟨U, hU⟩ : ∃ U : World, U = wr := ⟨wr, rfl⟩
        subst hU
        go_wp2_with fail
        go_loopw [8] (fun x wx => ∃ a : Nat, a ≤ k ∧ x = .int .i64 a ∧ (∀ j, j < a → lessB (nameAt nms (qs.getD j 0)) nms[k]) ∧ Below U.heap.size U wx) (fun x _ => k - (intOf x).toNat)
        case atStart => exact ⟨0, Nat.zero_le _, rfl, fun j h => absurd h (by omega), Below.refl _ _⟩
        case round =>
          obtain ⟨a, ha, rfl, hall, hbx⟩ := hrel
          have HALL : Hid (type_of% hall) := hall
          have lt1 : w.heap.size + 1 < U.heap.size := by omega
          have x2 := (hbx.cell (p := ⟨w.heap.size + 1, 2, none⟩) lt1).trans tc2
          have hbwx : Below w.heap.size w wr := hbw.trans (hbx.mono (by omega))
          have N0 := (hbwx.cell (p := ⟨bn, on + k, none⟩) hbn).trans n0
          have k0 : (0 : Int) ≤ (k : Int) := by omega
          have k1 : (k : Int) < (nms.length : Int) := by omega
          have a0 : (0 : Int) ≤ (a : Int) := by omega
          clear hall
          by_cases hak : a < k
          · obtain ⟨g, hgN, hgl, q0⟩ := HQ.out a hak
            subst hgN
            have Q0 := (hbx.cell (p := ⟨g, a, none⟩) hgl).trans q0
            have a1 : (a : Int) < (k : Int) := by omega
            by_cases hls : lessB (nameAt nms (qs.getD a 0)) nms[k]
            · have HA2 : Hid (∀ j, j < a + 1 → lessB (nameAt nms (qs.getD j 0)) nms[k]) := fun j hj => by
                by_cases c : j = a
                · subst c; exact hls
                · exact HALL.out j (by omega)
              have hcmp := less_yes hls
              have R2 : ∀ q, Below U.heap.size U (wr.drewN q) := fun q => below_drewN hbx q
              clear hls HALL HM HQ q0 n0 tc0 tc1 tc2 tc3
              generalize nameAt nms (qs.getD a 0) = y at *
              generalize nms[k] = z at *
              go_wp2_with fail
              go_quiet (fail)
              go_wp2_with fail
              go_roundw
              case rel => exact ⟨a + 1, by omega, by go_num, HA2.out, R2 _⟩
              case measure => simp [intOf]; omega
            · have hcmp := less_no hls
              have hlq : qs.length = k := HM.out.len.2
              have hzk : nameAt nms k = nms[k] := nameAt_eq nms k hlt
              have hqa : qs.getD a 0 = qs[a]'(by omega) := by simp [List.getD, show a < qs.length from by omega]
              have HORD : Hid ((∀ j (h : j < qs.length), j < a → lessB (nameAt nms qs[j]) (nameAt nms k)) ∧ ∀ j (h : j < qs.length), a ≤ j → ¬ lessB (nameAt nms qs[j]) (nameAt nms k)) := by
                rw [hzk]
                refine ⟨fun j h hj => ?_, fun j h hj => ?_⟩
                · have := HALL.out j hj
                  rwa [show qs.getD j 0 = qs[j] from by simp [List.getD, h]] at this
                · rw [hqa] at hls
                  by_cases c : j = a
                  · subst c; exact hls
                  · have h3 := HM.out.ord a j (by omega) h
                    intro q
                    by_cases d : lessB nms[k] (nameAt nms (qs[a]'(by omega)))
                    · exact h3 (less_trans q d)
                    · rw [← less_total hls d] at q; exact h3 q
              have HZK : Hid (nameAt nms k = nms[k]) := hzk
              clear hzk hqa hlq
              generalize hy : nameAt nms (qs.getD a 0) = y at *
              generalize hz : nms[k] = z at *
              go_wp2_with fail
              go_quiet (fail)
              go_wp2_with fail
              have hbX : ∀ q, Below U.heap.size U (wr.drewN q) := fun q => below_drewN hbx q
              have Y2 : ∀ q, (wr.drewN q).cell? ⟨w.heap.size + 1, 2, none⟩ = some (.slice (some ⟨g, 0, none⟩) k cN) := fun q => ((hbX q).cell (p := ⟨w.heap.size + 1, 2, none⟩) lt1).trans tc2
              have YN : ∀ q, (wr.drewN q).cell? ⟨bn, on + k, none⟩ = some (.string z) := fun q => N0
              clear x2 N0 Q0 hcmp HALL HQ q0 n0 tc0 tc1 tc2 tc3
              generalize hX : wr.drewN _ = X at *
              have hS0 : X.cell? ⟨w.heap.size + 1, 2, none⟩ = some (.slice (some ⟨g, 0, none⟩) k cN) ∧ X.cell? ⟨bn, on + k, none⟩ = some (.string z) := ⟨hX ▸ Y2 _, hX ▸ YN _⟩
              have hUX : Below U.heap.size U X := hX ▸ hbX _
              have oX := kept_belowT HM.out.names hUX
              have hWX : W1.heap.size ≤ X.heap.size := Nat.le_trans HM.out.only.size hUX.size
              have hkc : k ≤ cN := own_cap oX
              have ac : (a : Int) ≤ (cN : Int) := by omega
              have akI : (a : Int) ≤ (k : Int) := by omega
              have kcI : (k : Int) ≤ (cN : Int) := by omega
              refine wp_region_noPanic ?_
              refine wp_region_till (fun w' => w'.cell? ⟨w.heap.size + 1, 2, none⟩ = some (.slice (some ⟨g, 0, none⟩) k cN) ∧ w'.cell? ⟨bn, on + k, none⟩ = some (.string z)) 18 (by kernel_rfl) ?_
              refine wpTill.take (i := 1) (v := ?_) rfl rfl (by kernel_rfl) (by kernel_rfl) (by kernel_rfl) (by kernel_rfl) (fun _ _ _ h => h) (Or.inl ⟨by rfl, ?_⟩) hS0 ?_
              rotate_left
              · intro w9 hs9
                obtain ⟨s1, s2⟩ := hs9
                go_simp
                try rfl
              refine wpTill.take (i := 2) (v := ?_) rfl rfl (by kernel_rfl) (by kernel_rfl) (by kernel_rfl) (by kernel_rfl) (fun _ _ _ h => h) (Or.inl ⟨by rfl, ?_⟩) hS0 ?_
              rotate_left
              · intro w9 hs9
                obtain ⟨s1, s2⟩ := hs9
                go_simp
                try rfl
              refine wpTill.take (i := 3) (v := ?_) rfl rfl (by kernel_rfl) (by kernel_rfl) (by kernel_rfl) (by kernel_rfl) (fun _ _ _ h => h) (Or.inl ⟨by rfl, ?_⟩) hS0 ?_
              rotate_left
              · intro w9 hs9
                obtain ⟨s1, s2⟩ := hs9
                go_simp
                try rfl
              refine wpTill.take (i := 4) (v := ?_) rfl rfl (by kernel_rfl) (by kernel_rfl) (by kernel_rfl) (by kernel_rfl) (fun _ _ _ h => h) (Or.inl ⟨by rfl, ?_⟩) hS0 ?_
              rotate_left
              · intro w9 hs9
                obtain ⟨s1, s2⟩ := hs9
                go_simp
                try rfl
              refine wpTill.take (i := 6) (v := ?_) rfl rfl (by kernel_rfl) (by kernel_rfl) (by kernel_rfl) (by kernel_rfl) (fun _ _ _ h => h) (Or.inl ⟨by rfl, ?_⟩) hS0 ?_
              rotate_left
              · intro w9 hs9
                obtain ⟨s1, s2⟩ := hs9
                go_simp
                try rfl
              refine wpTill.take (i := 7) (v := ?_) rfl rfl (by kernel_rfl) (by kernel_rfl) (by kernel_rfl) (by kernel_rfl) (fun _ _ _ h => h) (Or.inl ⟨by rfl, ?_⟩) hS0 ?_
              rotate_left
              · intro w9 hs9
                obtain ⟨s1, s2⟩ := hs9
                go_simp
                try rfl
              refine wpTill.take (i := 8) (v := ?_) rfl rfl (by kernel_rfl) (by kernel_rfl) (by kernel_rfl) (by kernel_rfl) (fun _ _ _ h => h) (Or.inl ⟨by rfl, ?_⟩) hS0 ?_
              rotate_left
              · intro w9 hs9
                obtain ⟨s1, s2⟩ := hs9
                go_simp
                try rfl
              refine wpTill.take (i := 9) (v := ?_) rfl rfl (by kernel_rfl) (by kernel_rfl) (by kernel_rfl) (by kernel_rfl) (fun _ _ _ h => h) (Or.inl ⟨by rfl, ?_⟩) hS0 ?_
              rotate_left
              · intro w9 hs9
                obtain ⟨s1, s2⟩ := hs9
                go_simp
                try rfl
              refine wpTill.take (i := 12) (v := ?_) rfl rfl (by kernel_rfl) (by kernel_rfl) (by kernel_rfl) (by kernel_rfl) (fun _ _ _ h => h) (Or.inl ⟨by rfl, ?_⟩) hS0 ?_
              rotate_left
              · intro w9 hs9
                obtain ⟨s1, s2⟩ := hs9
                go_simp
                try rfl
              refine wpTill.take (i := 13) (v := ?_) rfl rfl (by kernel_rfl) (by kernel_rfl) (by kernel_rfl) (by kernel_rfl) (fun _ _ _ h => h) (Or.inl ⟨by rfl, ?_⟩) hS0 ?_
              rotate_left
              · intro w9 hs9
                obtain ⟨s1, s2⟩ := hs9
                go_simp
                try rfl
              refine wpTill.take (i := 14) (v := ?_) rfl rfl (by kernel_rfl) (by kernel_rfl) (by kernel_rfl) (by kernel_rfl) (fun _ _ _ h => h) (Or.inl ⟨by rfl, ?_⟩) hS0 ?_
              rotate_left
              · intro w9 hs9
                obtain ⟨s1, s2⟩ := hs9
                go_simp
                try rfl
              refine wpTill.take (i := 15) (v := ?_) rfl rfl (by kernel_rfl) (by kernel_rfl) (by kernel_rfl) (by kernel_rfl) (fun _ _ _ h => h) (Or.inl ⟨by rfl, ?_⟩) hS0 ?_
              rotate_left
              · intro w9 hs9
                obtain ⟨s1, s2⟩ := hs9
                go_simp
                try rfl
              have HSX : Hid (∀ Z : World, Below X.heap.size X Z → Z.cell? ⟨w.heap.size + 1, 2, none⟩ = some (.slice (some ⟨g, 0, none⟩) k cN) ∧ Z.cell? ⟨bn, on + k, none⟩ = some (.string z)) := fun Z hZ => ⟨(hZ.cell (p := ⟨w.heap.size + 1, 2, none⟩) (World.block_lt_of_cell? X _ hS0.1)).trans hS0.1, (hZ.cell (p := ⟨bn, on + k, none⟩) (World.block_lt_of_cell? X _ hS0.2)).trans hS0.2⟩
              have HN1 : Hid (∀ Z : World, Below X.heap.size X Z → ∀ j u, ((strV (qs.map (nameAt nms))).take a)[j]? = some u → Z.cell? ((⟨g, 0, none⟩ : Addr).add j) = some u) := fun Z hZ => own_take oX hZ a
              obtain ⟨D, hD, HN2⟩ : ∃ D : Addr, (if cN = a then some (⟨g, 0, none⟩ : Addr) else some ⟨g, a, none⟩) = some D ∧ Hid (∀ Z : World, Below X.heap.size X Z → ∀ j u, ((strV (qs.map (nameAt nms))).drop a)[j]? = some u → Z.cell? (D.add j) = some u) := by
                by_cases c : cN = a
                · refine ⟨_, if_pos c, fun Z hZ j u hu => ?_⟩
                  have := (List.getElem?_eq_some_iff.1 hu).1
                  have := oX.1
                  rw [List.length_drop] at *
                  omega
                · exact ⟨_, if_neg c, fun Z hZ => own_drop oX hZ a⟩
              have hl1 : ((strV (qs.map (nameAt nms))).take a).length = a * 1 := by have := oX.1; rw [List.length_take]; omega
              have hl2 : ((strV (qs.map (nameAt nms))).drop a).length = (k - a) * 1 := by have := oX.1; rw [List.length_drop]; omega
              have h11 : ∀ u ∈ (strV (qs.map (nameAt nms))).take a, u.oneCell' = true := fun u hu => strV_one _ u (List.mem_of_mem_take hu)
              have h12 : ∀ u ∈ (strV (qs.map (nameAt nms))).drop a, u.oneCell' = true := fun u hu => strV_one _ u (List.mem_of_mem_drop hu)
              go_simp
              refine till_kont 41 46 51 52 57 58 (fun v Y => ∃ (aa : Option Addr) (cc : Nat), v = .slice aa (k + 1) cc ∧ Y.ownsRow X.heap.size 9 1 (.slice aa (k + 1) cc) (k + 1) ((strV (qs.map (nameAt nms))).take a ++ [.string z] ++ (strV (qs.map (nameAt nms))).drop a) ∧ Y.heap[w.heap.size + 1]? = some (.cells #[.int .i64 5, .string ⟨#[]⟩, .slice aa (k + 1) cc, .slice aK k cK] 28 (0, 0)) ∧ OnlyL [w.heap.size + 1] X Y) ?_ ?_
              · intro m1 m2 m3 m4 m5 m6 Y hF
                obtain ⟨aa, cc, rfl, oY, bY, onY⟩ := hF
                obtain ⟨⟨_, _, _, y3⟩, _⟩ := block4 bY
                have onU : OnlyL [w.heap.size + 1] U Y := (OnlyL.of_below hUX).trans onY
                obtain ⟨gK, rfl⟩ : ∃ gK, aK = some (⟨gK, 0, none⟩ : Addr) := own_some HM.out.kids (by omega)
                have oK : Y.ownsRow W1.heap.size 28 4 (.slice (some ⟨gK, 0, none⟩) k cK) k (flatK (qs.map (kidAt ks)) ls) := owns_onlyL HM.out.kids onU (fun x hx => by simp only [List.mem_singleton] at hx; omega)
                have hkc2 : k ≤ cK := own_cap oK
                have acK : (a : Int) ≤ (cK : Int) := by omega
                have kcK : (k : Int) ≤ (cK : Int) := by omega
                have hkl : k < ks.length := by have := HNE.out; omega
                have kl0 : (k : Int) < (ks.length : Int) := by omega
                obtain ⟨bk, ok, rfl, hbk, hcl⟩ := HCC.out k hkl
                have hta := HCA.out k hkl
                obtain ⟨an2, ln2, cn2, ak2, lk2, ck2, ee⟩ := hta.shape
                have hbwY : Below w.heap.size w Y := (hbw.trans (hUX.mono (by omega))).trans (onY.below (fun x hx => by simp only [List.mem_singleton] at hx; omega) (by have := hUX.size; omega))
                have A0 : Y.cell? ⟨bk, ok + k * 4, none⟩ = some (.int .i64 (kidAt ks k).kind) := (hbwY.cell (p := ⟨bk, ok + k * 4, none⟩) hbk).trans (hcl 0 _ (by rw [ee]; rfl))
                have A1 : Y.cell? ⟨bk, ok + k * 4 + 1, none⟩ = some (.string (kidAt ks k).name) := (hbwY.cell (p := ⟨bk, ok + k * 4 + 1, none⟩) hbk).trans (hcl 1 _ (by rw [ee]; rfl))
                have A2 : Y.cell? ⟨bk, ok + k * 4 + 2, none⟩ = some (.slice an2 ln2 cn2) := (hbwY.cell (p := ⟨bk, ok + k * 4 + 2, none⟩) hbk).trans (hcl 2 _ (by rw [ee]; rfl))
                have A3 : Y.cell? ⟨bk, ok + k * 4 + 3, none⟩ = some (.slice ak2 lk2 ck2) := (hbwY.cell (p := ⟨bk, ok + k * 4 + 3, none⟩) hbk).trans (hcl 3 _ (by rw [ee]; rfl))
                have hbu : Ty.bulk n (kidAt ks k) ≤ 1048576 := by
                  have h1 := kid_bulk n ks k hkl
                  have h2 := HBK.out
                  rw [kidAt_eq ks k hkl]
                  unfold rowBulk at h2
                  omega
                have HCP : Hid (∀ wx : World, Below w.heap.size w wx → Calls Tryd.prog 18 #[.agg #[.int .i64 (kidAt ks k).kind, .string (kidAt ks k).name, .slice an2 ln2 cn2, .slice ak2 lk2 ck2]] wx fun e w' => ∃ (an3 : Option Addr) (cn3 : Nat) (ak3 : Option Addr) (ck3 : Nat), e = .returned (.agg #[.int .i64 (kidAt ks k).kind, .string (kidAt ks k).name, .slice an3 (kidAt ks k).names.length cn3, .slice ak3 (kidAt ks k).kids.length ck3]) ∧ (∃ l, cellsK (kidAt ks k) l = [.int .i64 (kidAt ks k).kind, .string (kidAt ks k).name, .slice an3 (kidAt ks k).names.length cn3, .slice ak3 (kidAt ks k).kids.length ck3] ∧ NewLay wx.heap.size w' n l (kidAt ks k)) ∧ Below wx.heap.size wx w') := fun wx hx => by
                  have := specCopy n (C k) (kidAt ks k) wx (hta.below hx) hbu
                  rw [ee] at this
                  refine this.mono ?_
                  rintro e w' ⟨l, rfl, hl, hb⟩
                  obtain ⟨an3, cn3, ak3, ck3, e3⟩ := lay_cellsN hl.1
                  exact ⟨an3, cn3, ak3, ck3, by rw [e3], ⟨l, e3, hl⟩, hb⟩
                have HYZ : Hid (W1.heap.size ≤ Y.heap.size ∧ w.heap.size ≤ Y.heap.size) := ⟨by have := onY.size; omega, hbwY.size⟩
                have hSY : Y.cell? ⟨w.heap.size + 1, 3, none⟩ = some (.slice (some ⟨gK, 0, none⟩) k cK) ∧ Y.cell? ⟨bk, ok + k * 4, none⟩ = some (.int .i64 (kidAt ks k).kind) ∧ Y.cell? ⟨bk, ok + k * 4 + 1, none⟩ = some (.string (kidAt ks k).name) ∧ Y.cell? ⟨bk, ok + k * 4 + 2, none⟩ = some (.slice an2 ln2 cn2) ∧ Y.cell? ⟨bk, ok + k * 4 + 3, none⟩ = some (.slice ak2 lk2 ck2) := ⟨y3, A0, A1, A2, A3⟩
                have HSY : Hid (∀ Z : World, Below Y.heap.size Y Z → Z.cell? ⟨w.heap.size + 1, 3, none⟩ = some (.slice (some ⟨gK, 0, none⟩) k cK) ∧ Z.cell? ⟨bk, ok + k * 4, none⟩ = some (.int .i64 (kidAt ks k).kind) ∧ Z.cell? ⟨bk, ok + k * 4 + 1, none⟩ = some (.string (kidAt ks k).name) ∧ Z.cell? ⟨bk, ok + k * 4 + 2, none⟩ = some (.slice an2 ln2 cn2) ∧ Z.cell? ⟨bk, ok + k * 4 + 3, none⟩ = some (.slice ak2 lk2 ck2)) := fun Z hZ => by
                  have hq : bk < Y.heap.size := World.block_lt_of_cell? Y _ A0
                  exact ⟨(hZ.cell (p := ⟨w.heap.size + 1, 3, none⟩) (World.block_lt_of_cell? Y _ y3)).trans y3, (hZ.cell (p := ⟨bk, ok + k * 4, none⟩) hq).trans A0, (hZ.cell (p := ⟨bk, ok + k * 4 + 1, none⟩) hq).trans A1, (hZ.cell (p := ⟨bk, ok + k * 4 + 2, none⟩) hq).trans A2, (hZ.cell (p := ⟨bk, ok + k * 4 + 3, none⟩) hq).trans A3⟩
                have hk40 : (0 : Int) ≤ (k : Int) := by omega
                have HK1 : Hid (∀ Z : World, Below Y.heap.size Y Z → ∀ j u, ((flatK (qs.map (kidAt ks)) ls).take (a * 4))[j]? = some u → Z.cell? ((⟨gK, 0, none⟩ : Addr).add j) = some u) := fun Z hZ => own_take oK hZ (a * 4)
                obtain ⟨D2, hD2, HK2⟩ : ∃ D2 : Addr, (if cK = a then some (⟨gK, 0, none⟩ : Addr) else some ⟨gK, a * 4, none⟩) = some D2 ∧ Hid (∀ Z : World, Below Y.heap.size Y Z → ∀ j u, ((flatK (qs.map (kidAt ks)) ls).drop (a * 4))[j]? = some u → Z.cell? (D2.add j) = some u) := by
                  by_cases c : cK = a
                  · refine ⟨_, if_pos c, fun Z hZ j u hu => ?_⟩
                    have := (List.getElem?_eq_some_iff.1 hu).1
                    have := oK.1
                    rw [List.length_drop] at *
                    omega
                  · exact ⟨_, if_neg c, fun Z hZ => own_drop oK hZ (a * 4)⟩
                have kl1 : ((flatK (qs.map (kidAt ks)) ls).take (a * 4)).length = a * 4 := by have := oK.1; rw [List.length_take]; omega
                have kl2 : ((flatK (qs.map (kidAt ks)) ls).drop (a * 4)).length = (k - a) * 4 := by have := oK.1; rw [List.length_drop]; omega
                have hone : ∀ u ∈ flatK (qs.map (kidAt ks)) ls, u.oneCell' = true := flatK_one _ _ fun l hl => by
                  obtain ⟨j, hj, rfl⟩ := List.getElem_of_mem hl
                  exact lay_slices (HM.out.lay j hj (by have := HM.out.len; omega)).1
                have k11 : ∀ u ∈ (flatK (qs.map (kidAt ks)) ls).take (a * 4), u.oneCell' = true := fun u hu => hone u (List.mem_of_mem_take hu)
                have k12 : ∀ u ∈ (flatK (qs.map (kidAt ks)) ls).drop (a * 4), u.oneCell' = true := fun u hu => hone u (List.mem_of_mem_drop hu)
                clear hcl ee A0 A1 A2 A3 y3 hone hta hbu onU
                refine NoPanic.normal ?_
                go_simp
                go_wp2_with fail
                refine wp_region_noPanic ?_
                refine wp_region_till (fun w' => w'.cell? ⟨w.heap.size + 1, 3, none⟩ = some (.slice (some ⟨gK, 0, none⟩) k cK) ∧ w'.cell? ⟨bk, ok + k * 4, none⟩ = some (.int .i64 (kidAt ks k).kind) ∧ w'.cell? ⟨bk, ok + k * 4 + 1, none⟩ = some (.string (kidAt ks k).name) ∧ w'.cell? ⟨bk, ok + k * 4 + 2, none⟩ = some (.slice an2 ln2 cn2) ∧ w'.cell? ⟨bk, ok + k * 4 + 3, none⟩ = some (.slice ak2 lk2 ck2)) 19 (by kernel_rfl) ?_
                refine wpTill.take (i := 1) (v := ?_) rfl rfl (by kernel_rfl) (by kernel_rfl) (by kernel_rfl) (by kernel_rfl) (fun _ _ _ h => h) (Or.inl ⟨by rfl, ?_⟩) hSY ?_
                rotate_left
                · intro w9 hs9
                  obtain ⟨s0, s1, s2, s3, s4⟩ := hs9
                  go_simp
                  try rfl
                refine wpTill.take (i := 2) (v := ?_) rfl rfl (by kernel_rfl) (by kernel_rfl) (by kernel_rfl) (by kernel_rfl) (fun _ _ _ h => h) (Or.inl ⟨by rfl, ?_⟩) hSY ?_
                rotate_left
                · intro w9 hs9
                  obtain ⟨s0, s1, s2, s3, s4⟩ := hs9
                  go_simp
                  try rfl
                refine wpTill.take (i := 3) (v := ?_) rfl rfl (by kernel_rfl) (by kernel_rfl) (by kernel_rfl) (by kernel_rfl) (fun _ _ _ h => h) (Or.inl ⟨by rfl, ?_⟩) hSY ?_
                rotate_left
                · intro w9 hs9
                  obtain ⟨s0, s1, s2, s3, s4⟩ := hs9
                  go_simp
                  try rfl
                refine wpTill.take (i := 4) (v := ?_) rfl rfl (by kernel_rfl) (by kernel_rfl) (by kernel_rfl) (by kernel_rfl) (fun _ _ _ h => h) (Or.inl ⟨by rfl, ?_⟩) hSY ?_
                rotate_left
                · intro w9 hs9
                  obtain ⟨s0, s1, s2, s3, s4⟩ := hs9
                  go_simp
                  try rfl
                refine wpTill.take (i := 6) (v := ?_) rfl rfl (by kernel_rfl) (by kernel_rfl) (by kernel_rfl) (by kernel_rfl) (fun _ _ _ h => h) (Or.inl ⟨by rfl, ?_⟩) hSY ?_
                rotate_left
                · intro w9 hs9
                  obtain ⟨s0, s1, s2, s3, s4⟩ := hs9
                  go_simp
                  try rfl
                refine wpTill.take (i := 7) (v := ?_) rfl rfl (by kernel_rfl) (by kernel_rfl) (by kernel_rfl) (by kernel_rfl) (fun _ _ _ h => h) (Or.inl ⟨by rfl, ?_⟩) hSY ?_
                rotate_left
                · intro w9 hs9
                  obtain ⟨s0, s1, s2, s3, s4⟩ := hs9
                  go_simp
                  try rfl
                refine wpTill.take (i := 8) (v := ?_) rfl rfl (by kernel_rfl) (by kernel_rfl) (by kernel_rfl) (by kernel_rfl) (fun _ _ _ h => h) (Or.inl ⟨by rfl, ?_⟩) hSY ?_
                rotate_left
                · intro w9 hs9
                  obtain ⟨s0, s1, s2, s3, s4⟩ := hs9
                  go_simp
                  try rfl
                refine wpTill.take (i := 9) (v := ?_) rfl rfl (by kernel_rfl) (by kernel_rfl) (by kernel_rfl) (by kernel_rfl) (fun _ _ _ h => h) (Or.inl ⟨by rfl, ?_⟩) hSY ?_
                rotate_left
                · intro w9 hs9
                  obtain ⟨s0, s1, s2, s3, s4⟩ := hs9
                  go_simp
                  try rfl
                refine wpTill.take (i := 13) (v := ?_) rfl rfl (by kernel_rfl) (by kernel_rfl) (by kernel_rfl) (by kernel_rfl) (fun _ _ _ h => h) (Or.inl ⟨by rfl, ?_⟩) hSY ?_
                rotate_left
                · intro w9 hs9
                  obtain ⟨s0, s1, s2, s3, s4⟩ := hs9
                  go_simp
                  try rfl
                refine wpTill.take (i := 14) (v := ?_) rfl rfl (by kernel_rfl) (by kernel_rfl) (by kernel_rfl) (by kernel_rfl) (fun _ _ _ h => h) (Or.inl ⟨by rfl, ?_⟩) hSY ?_
                rotate_left
                · intro w9 hs9
                  obtain ⟨s0, s1, s2, s3, s4⟩ := hs9
                  go_simp
                  try rfl
                refine wpTill.take (i := 15) (v := ?_) rfl rfl (by kernel_rfl) (by kernel_rfl) (by kernel_rfl) (by kernel_rfl) (fun _ _ _ h => h) (Or.inl ⟨by rfl, ?_⟩) hSY ?_
                rotate_left
                · intro w9 hs9
                  obtain ⟨s0, s1, s2, s3, s4⟩ := hs9
                  go_simp
                  try rfl
                refine wpTill.take (i := 16) (v := ?_) rfl rfl (by kernel_rfl) (by kernel_rfl) (by kernel_rfl) (by kernel_rfl) (fun _ _ _ h => h) (Or.inl ⟨by rfl, ?_⟩) hSY ?_
                rotate_left
                · intro w9 hs9
                  obtain ⟨s0, s1, s2, s3, s4⟩ := hs9
                  go_simp
                  try rfl
                go_simp
                refine wpTill.ready (rs := [0]) (by kernel_rfl) (by simp) ?_
                intro i9 hi9
                simp only [List.mem_cons, List.not_mem_nil, or_false] at hi9
                subst hi9
                refine wpOp_of rfl (step_open (by rfl) ?_)
                go_simp
                have hb0 : Below Y.heap.size Y ((Y.alloc (.cells #[] 28)).drew) := ((Below.refl _ _).alloc (Nat.le_refl _) _).drew
                have e0 : ((Y.alloc (.cells #[] 28)).drew).heap[Y.heap.size]? = some (.cells #[] 28 (0, 0)) := (MapKept.heap_alloc Y _).1
                refine ⟨HSY.out _ ((Below.refl _ _).alloc (Nat.le_refl _) _), ?_⟩
                generalize ((Y.alloc (.cells #[] 28)).drew) = Y0 at *
                refine wpTill.ready (rs := [5]) (by kernel_rfl) (by simp) ?_
                intro i9 hi9
                simp only [List.mem_cons, List.not_mem_nil, or_false] at hi9
                subst hi9
                refine wpOp_of rfl (step_append_own (by rfl) (.tmp 59) (.tmp 63) 26 rfl Y.heap.size 28 i0 _ 4 72 Tryd.underlying26 hi0 hz0 hz1 hz2 rfl (by decide) (.slice (some ⟨Y.heap.size, 0, none⟩) 0 0) 0 [] (by rfl) (own_empty4 e0 (Nat.le_refl _)) ⟨gK, 0, none⟩ a cK _ (by rfl) kl1 (HK1.out _ hb0) k11 (by unfold maxLen; omega) (by omega) hb0.size ?_)
                intro v5 w5 o5' g5 _
                have o5 : w5.ownsRow Y.heap.size 28 4 v5 a ((flatK (qs.map (kidAt ks)) ls).take (a * 4)) := by simpa using o5'
                have hb5 : Below Y.heap.size Y w5 := hb0.grown g5 hb0.size (fun j hj => by simp [Value.ownBlock] at hj; omega)
                clear o5' g5 e0 hb0
                refine ⟨fun _ => HSY.out _ hb5, ?_⟩
                go_simp
                refine wpTill.ready (rs := [10]) (by kernel_rfl) (by simp) ?_
                intro i9 hi9
                simp only [List.mem_cons, List.not_mem_nil, or_false] at hi9
                subst hi9
                have hbw5 : Below w.heap.size w w5 := hbwY.trans (hb5.mono HYZ.out.2)
                refine wpOp_of rfl (step_open (by rfl) ?_)
                go_simp
                go_at_call 18
                refine (HCP.out _ hbw5).mono ?_
                rintro e w6 ⟨an3, cn3, ak3, ck3, rfl, ⟨l, ecl, hnl⟩, hb6'⟩
                have o6 := kept_belowT o5 hb6'
                have hb6 := hb5.trans (hb6'.mono hb5.size)
                have hnl6 : NewLay w5.heap.size w6 n l (kidAt ks k) := hnl
                have hfar : ∀ b, v5.ownBlock = some b → b < w5.heap.size := fun b e => (o5.lt b e).2
                have hY5 := hb5.size
                clear hnl hb6' o5 hbw5 hb5
                refine ⟨HSY.out _ hb6, ?_⟩
                go_simp
                refine wpTill.ready (rs := [11]) (by kernel_rfl) (by simp) ?_
                intro i9 hi9
                simp only [List.mem_cons, List.not_mem_nil, or_false] at hi9
                subst hi9
                refine wpOp_of rfl (step_open (by rfl) ?_)
                go_simp
                have hb7 : Below Y.heap.size Y (w6.alloc (.cells #[.int .i64 (kidAt ks k).kind, .string (kidAt ks k).name, .slice an3 (kidAt ks k).names.length cn3, .slice ak3 (kidAt ks k).kids.length ck3] 28)) := hb6.alloc hb6.size _
                have o7 := o6.alloc (.cells #[.int .i64 (kidAt ks k).kind, .string (kidAt ks k).name, .slice an3 (kidAt ks k).names.length cn3, .slice ak3 (kidAt ks k).kids.length ck3] 28)
                have n7 := World.news_of_block (cs := #[.int .i64 (kidAt ks k).kind, .string (kidAt ks k).name, .slice an3 (kidAt ks k).names.length cn3, .slice ak3 (kidAt ks k).kids.length ck3]) (t := 28) (fr := (0, 0)) (heap_alloc_new w6 _)
                have hnl7 := hnl6.below ((Below.refl _ w6).alloc (Nat.le_refl _) (.cells #[.int .i64 (kidAt ks k).kind, .string (kidAt ks k).name, .slice an3 (kidAt ks k).names.length cn3, .slice ak3 (kidAt ks k).kids.length ck3] 28))
                refine ⟨HSY.out _ hb7, ?_⟩
                clear o6 hb6 hnl6
                generalize (w6.alloc (.cells #[.int .i64 (kidAt ks k).kind, .string (kidAt ks k).name, .slice an3 (kidAt ks k).names.length cn3, .slice ak3 (kidAt ks k).kids.length ck3] 28)) = Z at *
                refine wpTill.ready (rs := [12]) (by kernel_rfl) (by simp) ?_
                intro i9 hi9
                simp only [List.mem_cons, List.not_mem_nil, or_false] at hi9
                subst hi9
                refine wpOp_of rfl (step_append_lies _ (by rfl) (.tmp 64) (.tmp 70) 26 (by rfl) Y.heap.size 28 i0 _ 4 72 Tryd.underlying26 hi0 hz0 hz1 hz2 rfl (by decide) v5 a _ (by rfl) o7 ⟨w6.heap.size, 0, none⟩ 1 1 [.int .i64 (kidAt ks k).kind, .string (kidAt ks k).name, .slice an3 (kidAt ks k).names.length cn3, .slice ak3 (kidAt ks k).kids.length ck3] (by rfl) rfl n7 (by simp [Value.oneCell']) (by omega) (by unfold maxLen; omega) (by omega) hb7.size Z.heap.size rfl ?_)
                intro gg gc w11 o11 g11 hat hlt11
                have hb11 : Below Y.heap.size Y w11 := hb7.grown g11 hb7.size (fun j hj => (o7.lt j hj).1)
                have hne7 : ∀ b ∈ Lay.blocks n l, b < Z.heap.size ∧ v5.ownBlock ≠ some b := fun b hb => ⟨hnl7.1.lt hb, fun e => by have := hfar b e; have := hnl7.2.2 b hb; omega⟩
                have hnl11 : LayAt w11 n l (kidAt ks k) := hnl7.1.same fun b hb => g11.block b (hne7 b hb).1 (fun e => (hne7 b hb).2 e.symm)
                have hgg : ∀ b ∈ Lay.blocks n l, gg ≠ b := fun b hb e => by
                  rcases hat with h | h
                  · exact (hne7 b hb).2 (e ▸ h)
                  · have := (hne7 b hb).1; omega
                refine ⟨fun _ => HSY.out _ hb11, ?_⟩
                clear g11 n7 o7 hb7 hat
                go_simp
                refine wpTill.ready (rs := [17]) (by kernel_rfl) (by simp) ?_
                intro i9 hi9
                simp only [List.mem_cons, List.not_mem_nil, or_false] at hi9
                subst hi9
                refine wpOp_of rfl (step_append_own (by rfl) (.tmp 71) (.tmp 75) 26 rfl Y.heap.size 28 i0 _ 4 72 Tryd.underlying26 hi0 hz0 hz1 hz2 rfl (by decide) (.slice (some ⟨gg, 0, none⟩) (a + 1) gc) (a + 1) _ (by rfl) o11 D2 (k - a) (cK - a) _ (by rw [← hD2]; rfl) kl2 (HK2.out _ hb11) k12 (by unfold maxLen; omega) (by omega) hb11.size ?_)
                intro v16 w16 o16' g16 _
                have hb16 : Below Y.heap.size Y w16 := hb11.grown g16 hb11.size (fun j hj => (o11.lt j hj).1)
                have hnl16 : LayAt w16 n l (kidAt ks k) := hnl11.same fun b hb => g16.block b (hnl11.lt hb) (fun e => hgg b hb (Option.some.inj e).symm)
                have hlb16 : ∀ b ∈ Lay.blocks n l, Y.heap.size ≤ b := fun b hb => Nat.le_trans hY5 (hnl7.2.2 b hb)
                refine ⟨fun _ => HSY.out _ hb16, ?_⟩
                clear g16
                rw [show a + 1 + (k - a) = k + 1 from by omega] at o16'
                obtain ⟨a16, c16, e16⟩ := slice_ownM o16'
                subst e16
                have hTY : w.heap.size + 1 < Y.heap.size := (Array.getElem?_eq_some_iff.1 bY).1
                have hbox : w16.heap[w.heap.size + 1]? = _ := (hb16.block (w.heap.size + 1) hTY).trans bY
                obtain ⟨⟨t0, t1, t2, t3⟩, tf⟩ := block4 hbox
                have tf2 := tf 3
                clear tf
                go_simp
                refine wpTill.ready (rs := [18]) (by kernel_rfl) (by simp) ?_
                intro i9 hi9
                simp only [List.mem_cons, List.not_mem_nil, or_false] at hi9
                subst hi9
                refine wpOp_of rfl (step_open (by rfl) ?_)
                go_simp
                refine ⟨by first | exact HSY.out _ hb16 | exact (HSY.out _ hb16).2, ?_⟩
                refine wpTill.ready (rs := [19]) (by kernel_rfl) (by simp) ?_
                intro i9 hi9
                simp only [List.mem_cons, List.not_mem_nil, or_false] at hi9
                subst hi9
                refine wpOp_of rfl (step_open (by rfl) ?_)
                go_simp
                refine wpTill.done (by kernel_rfl) ?_ _
                refine NoPanic.normal ?_
                have R1 : RecM W1 (w16.setCell ⟨w.heap.size + 1, 3, none⟩ (.slice a16 (k + 1) c16)) (w.heap.size + 1) n nms ks (k + 1) (qs.take a ++ [k] ++ qs.drop a) (.slice aa (k + 1) cc) (.slice a16 (k + 1) c16) (ls.take a ++ [l] ++ ls.drop a) := by
                  refine HM.out.ins (by omega) (heap_setCell_same w16 _ 3 _ _ _ hbox) ?_ ?_ (hnl16.same fun b hb => Below.heap_setCell _ _ _ _ (fun e => by have := hlb16 b hb; simp only at e; omega)) (fun b hb => Nat.le_trans HYZ.out.1 (hlb16 b hb)) (((OnlyL.of_below hUX).trans onY).trans ((OnlyL.of_below hb16).trans (OnlyL.set _ _ _ (by simp)))) HORD.out.1 HORD.out.2
                  · rw [HZK.out]; exact owns_other (own_base (kept_belowT oY hb16) hWX) HM.out.lt
                  · rw [ecl]; exact owns_other (own_base o16' HYZ.out.1) HM.out.lt
                have HR1 : Hid (type_of% R1) := R1
                clear R1 t0 t1 t2 t3 tf2 o16' o11 hb16 hb11 hbox hSY HSY HSX hS0
                go_wp2_with fail
                go_roundw
                case rel => exact ⟨k + 1, _, _, _, _, by omega, by go_num, HR1.out⟩
                case measure => simp [intOf]; omega
              intro KONT
              refine wpTill.ready (rs := [0, 10]) (by kernel_rfl) (by simp) ?_
              intro i9 hi9
              simp only [List.mem_cons, List.not_mem_nil, or_false] at hi9
              rcases hi9 with rfl | rfl
              · refine wpOp_of rfl (step_open (by rfl) ?_)
                go_simp
                have hb0 : Below X.heap.size X ((X.alloc (.cells #[] 9)).drew) := ((Below.refl _ _).alloc (Nat.le_refl _) _).drew
                have e0 : ((X.alloc (.cells #[] 9)).drew).heap[X.heap.size]? = some (.cells #[] 9 (0, 0)) := (MapKept.heap_alloc X _).1
                refine ⟨HSX.out _ ((Below.refl _ _).alloc (Nat.le_refl _) _), ?_⟩
                generalize ((X.alloc (.cells #[] 9)).drew) = X0 at *
                refine wpTill.ready (rs := [5, 10]) (by kernel_rfl) (by simp) ?_
                intro i9 hi9
                simp only [List.mem_cons, List.not_mem_nil, or_false] at hi9
                rcases hi9 with rfl | rfl
                · refine wpOp_of rfl (step_append_own (by rfl) (.tmp 41) (.tmp 45) 22 rfl X.heap.size 9 j0 (.string ⟨#[]⟩) 1 16 Tryd.underlying22 hj0 hy0 hy1 hy2 rfl (by decide) (.slice (some ⟨X.heap.size, 0, none⟩) 0 0) 0 [] (by rfl) (own_empty e0 (Nat.le_refl _)) ⟨g, 0, none⟩ a cN _ (by rfl) hl1 (HN1.out _ hb0) h11 (by unfold maxLen; omega) (by omega) hb0.size ?_)
                  intro v5 w5 o5' g5 _
                  have o5 : w5.ownsRow X.heap.size 9 1 v5 a ((strV (qs.map (nameAt nms))).take a) := by simpa using o5'
                  have hb5 : Below X.heap.size X w5 := hb0.grown g5 hb0.size (fun j hj => by simp [Value.ownBlock] at hj; omega)
                  clear o5'
                  refine ⟨fun _ => HSX.out _ hb5, ?_⟩
                  go_simp
                  refine wpTill.ready (rs := [10]) (by kernel_rfl) (by simp) ?_
                  intro i9 hi9
                  simp only [List.mem_cons, List.not_mem_nil, or_false] at hi9
                  subst hi9
                  refine wpOp_of rfl (step_open (by rfl) ?_)
                  go_simp
                  have hbZ : Below X.heap.size X (w5.alloc (.cells #[.string z] 9)) := hb5.alloc hb5.size _
                  have c10 : (w5.alloc (.cells #[.string z] 9)).cell? ⟨w5.heap.size, 0, none⟩ = some (.string z) := by rw [cellNew _ rfl]; rfl
                  have oZ := o5.alloc (.cells #[.string z] 9)
                  refine ⟨HSX.out _ hbZ, ?_⟩
                  generalize (w5.alloc (.cells #[.string z] 9)) = Z at *
                  refine wpTill.ready (rs := [11]) (by kernel_rfl) (by simp) ?_
                  intro i9 hi9
                  simp only [List.mem_cons, List.not_mem_nil, or_false] at hi9
                  subst hi9
                  refine wpOp_of rfl (step_append_own (by rfl) (.tmp 46) (.tmp 51) 22 rfl X.heap.size 9 j0 (.string ⟨#[]⟩) 1 16 Tryd.underlying22 hj0 hy0 hy1 hy2 rfl (by decide) v5 a _ (by rfl) oZ ⟨w5.heap.size, 0, none⟩ 1 1 [.string z] (by rfl) rfl (cell_oneR c10) (fun u hu => by simp only [List.mem_singleton] at hu; subst hu; rfl) (by unfold maxLen; omega) (by omega) hbZ.size ?_)
                  intro v11 w11 o11 g11 _
                  have hb11 : Below X.heap.size X w11 := hbZ.grown g11 hbZ.size (fun j hj => (oZ.lt j hj).1)
                  refine ⟨fun _ => HSX.out _ hb11, ?_⟩
                  clear g11
                  go_simp
                  refine wpTill.ready (rs := [16]) (by kernel_rfl) (by simp) ?_
                  intro i9 hi9
                  simp only [List.mem_cons, List.not_mem_nil, or_false] at hi9
                  subst hi9
                  refine wpOp_of rfl (step_append_own (by rfl) (.tmp 52) (.tmp 56) 22 rfl X.heap.size 9 j0 (.string ⟨#[]⟩) 1 16 Tryd.underlying22 hj0 hy0 hy1 hy2 rfl (by decide) v11 (a + 1) _ (by rfl) o11 D (k - a) (cN - a) _ (by rw [← hD]; rfl) hl2 (HN2.out _ hb11) h12 (by unfold maxLen; omega) (by omega) hb11.size ?_)
                  intro v16 w16 o16' g16 _
                  have hb16 : Below X.heap.size X w16 := hb11.grown g16 hb11.size (fun j hj => (o11.lt j hj).1)
                  refine ⟨fun _ => HSX.out _ hb16, ?_⟩
                  clear g16
                  rw [show a + 1 + (k - a) = k + 1 from by omega] at o16'
                  obtain ⟨a16, c16, e16⟩ := slice_ownM o16'
                  subst e16
                  have hbox : w16.heap[w.heap.size + 1]? = _ := (hb16.block (w.heap.size + 1) (Nat.lt_of_lt_of_le lt1 hUX.size)).trans ((hUX.block _ lt1).trans HM.out.box)
                  obtain ⟨⟨t0, t1, t2, t3⟩, tf⟩ := block4 hbox
                  have tf2 := tf 2
                  clear tf
                  go_simp
                  refine wpTill.ready (rs := [17]) (by kernel_rfl) (by simp) ?_
                  intro i9 hi9
                  simp only [List.mem_cons, List.not_mem_nil, or_false] at hi9
                  subst hi9
                  refine wpOp_of rfl (step_open (by rfl) ?_)
                  go_simp
                  refine ⟨by first | exact HSX.out _ hb16 | exact (HSX.out _ hb16).2, ?_⟩
                  refine wpTill.ready (rs := [18]) (by kernel_rfl) (by simp) ?_
                  intro i9 hi9
                  simp only [List.mem_cons, List.not_mem_nil, or_false] at hi9
                  subst hi9
                  refine wpOp_of rfl (step_open (by rfl) ?_)
                  go_simp
                  refine wpTill.done (by kernel_rfl) ?_ _
                  refine act_eq (KONT.out (.slice (some ⟨X.heap.size, 0, none⟩) 0 0) v5 (.slice (some ⟨w5.heap.size, 0, none⟩) 1 1) v11 (.slice a16 (k + 1) c16) (.pointer (some ⟨w.heap.size + 1, 2, none⟩)) _ ⟨a16, c16, rfl, ?_, heap_setCell_same w16 _ 2 _ _ _ hbox, (OnlyL.of_below hb16).trans (OnlyL.set _ _ _ (by simp))⟩) (by kernel_rfl)
                  exact owns_other o16' (Nat.lt_of_lt_of_le lt1 hUX.size)
                · refine wpOp_of rfl (step_open (by rfl) ?_)
                  go_simp
                  have hbZ : Below X.heap.size X (X0.alloc (.cells #[.string z] 9)) := hb0.alloc hb0.size _
                  have c10 : (X0.alloc (.cells #[.string z] 9)).cell? ⟨X0.heap.size, 0, none⟩ = some (.string z) := by rw [cellNew _ rfl]; rfl
                  have e1 : (X0.alloc (.cells #[.string z] 9)).heap[X.heap.size]? = some (.cells #[] 9 (0, 0)) := ((MapKept.heap_alloc X0 _).2 _ (Array.getElem?_eq_some_iff.1 e0).1).trans e0
                  have hz1 : X0.heap.size < (X0.alloc (.cells #[.string z] 9)).heap.size := by simp
                  have hne : X0.heap.size ≠ X.heap.size := fun e => by have := (Array.getElem?_eq_some_iff.1 e0).1; omega
                  refine ⟨HSX.out _ hbZ, ?_⟩
                  generalize (X0.alloc (.cells #[.string z] 9)) = Z at *
                  refine wpTill.ready (rs := [5]) (by kernel_rfl) (by simp) ?_
                  intro i9 hi9
                  simp only [List.mem_cons, List.not_mem_nil, or_false] at hi9
                  subst hi9
                  refine wpOp_of rfl (step_append_own (by rfl) (.tmp 41) (.tmp 45) 22 rfl X.heap.size 9 j0 (.string ⟨#[]⟩) 1 16 Tryd.underlying22 hj0 hy0 hy1 hy2 rfl (by decide) (.slice (some ⟨X.heap.size, 0, none⟩) 0 0) 0 [] (by rfl) (own_empty e1 (Nat.le_refl _)) ⟨g, 0, none⟩ a cN _ (by rfl) hl1 (HN1.out _ hbZ) h11 (by unfold maxLen; omega) (by omega) hbZ.size ?_)
                  intro v5 w5 o5' g5 _
                  have o5 : w5.ownsRow X.heap.size 9 1 v5 a ((strV (qs.map (nameAt nms))).take a) := by simpa using o5'
                  have hb5 : Below X.heap.size X w5 := hbZ.grown g5 hbZ.size (fun j hj => by simp [Value.ownBlock] at hj; omega)
                  clear o5'
                  refine ⟨fun _ => HSX.out _ hb5, ?_⟩
                  go_simp
                  have c5 := (World.cell?_of_block (a := ⟨X0.heap.size, 0, none⟩) (g5.block X0.heap.size hz1 (by simp only [Value.ownBlock]; intro e; exact hne (Option.some.inj e)))).trans c10
                  refine wpTill.ready (rs := [11]) (by kernel_rfl) (by simp) ?_
                  intro i9 hi9
                  simp only [List.mem_cons, List.not_mem_nil, or_false] at hi9
                  subst hi9
                  refine wpOp_of rfl (step_append_own (by rfl) (.tmp 46) (.tmp 51) 22 rfl X.heap.size 9 j0 (.string ⟨#[]⟩) 1 16 Tryd.underlying22 hj0 hy0 hy1 hy2 rfl (by decide) v5 a _ (by rfl) o5 ⟨X0.heap.size, 0, none⟩ 1 1 [.string z] (by rfl) rfl (cell_oneR c5) (fun u hu => by simp only [List.mem_singleton] at hu; subst hu; rfl) (by unfold maxLen; omega) (by omega) hb5.size ?_)
                  intro v11 w11 o11 g11 _
                  have hb11 : Below X.heap.size X w11 := hb5.grown g11 hb5.size (fun j hj => (o5.lt j hj).1)
                  refine ⟨fun _ => HSX.out _ hb11, ?_⟩
                  clear g11
                  go_simp
                  refine wpTill.ready (rs := [16]) (by kernel_rfl) (by simp) ?_
                  intro i9 hi9
                  simp only [List.mem_cons, List.not_mem_nil, or_false] at hi9
                  subst hi9
                  refine wpOp_of rfl (step_append_own (by rfl) (.tmp 52) (.tmp 56) 22 rfl X.heap.size 9 j0 (.string ⟨#[]⟩) 1 16 Tryd.underlying22 hj0 hy0 hy1 hy2 rfl (by decide) v11 (a + 1) _ (by rfl) o11 D (k - a) (cN - a) _ (by rw [← hD]; rfl) hl2 (HN2.out _ hb11) h12 (by unfold maxLen; omega) (by omega) hb11.size ?_)
                  intro v16 w16 o16' g16 _
                  have hb16 : Below X.heap.size X w16 := hb11.grown g16 hb11.size (fun j hj => (o11.lt j hj).1)
                  refine ⟨fun _ => HSX.out _ hb16, ?_⟩
                  clear g16
                  rw [show a + 1 + (k - a) = k + 1 from by omega] at o16'
                  obtain ⟨a16, c16, e16⟩ := slice_ownM o16'
                  subst e16
                  have hbox : w16.heap[w.heap.size + 1]? = _ := (hb16.block (w.heap.size + 1) (Nat.lt_of_lt_of_le lt1 hUX.size)).trans ((hUX.block _ lt1).trans HM.out.box)
                  obtain ⟨⟨t0, t1, t2, t3⟩, tf⟩ := block4 hbox
                  have tf2 := tf 2
                  clear tf
                  go_simp
                  refine wpTill.ready (rs := [17]) (by kernel_rfl) (by simp) ?_
                  intro i9 hi9
                  simp only [List.mem_cons, List.not_mem_nil, or_false] at hi9
                  subst hi9
                  refine wpOp_of rfl (step_open (by rfl) ?_)
                  go_simp
                  refine ⟨by first | exact HSX.out _ hb16 | exact (HSX.out _ hb16).2, ?_⟩
                  refine wpTill.ready (rs := [18]) (by kernel_rfl) (by simp) ?_
                  intro i9 hi9
                  simp only [List.mem_cons, List.not_mem_nil, or_false] at hi9
                  subst hi9
                  refine wpOp_of rfl (step_open (by rfl) ?_)
                  go_simp
                  refine wpTill.done (by kernel_rfl) ?_ _
                  refine act_eq (KONT.out (.slice (some ⟨X.heap.size, 0, none⟩) 0 0) v5 (.slice (some ⟨X0.heap.size, 0, none⟩) 1 1) v11 (.slice a16 (k + 1) c16) (.pointer (some ⟨w.heap.size + 1, 2, none⟩)) _ ⟨a16, c16, rfl, ?_, heap_setCell_same w16 _ 2 _ _ _ hbox, (OnlyL.of_below hb16).trans (OnlyL.set _ _ _ (by simp))⟩) (by kernel_rfl)
                  exact owns_other o16' (Nat.lt_of_lt_of_le lt1 hUX.size)
              · refine wpOp_of rfl (step_open (by rfl) ?_)
                go_simp
                refine ⟨HSX.out _ ((Below.refl _ _).alloc (Nat.le_refl _) _), ?_⟩
                refine wpTill.ready (rs := [0]) (by kernel_rfl) (by simp) ?_
                intro i9 hi9
                simp only [List.mem_cons, List.not_mem_nil, or_false] at hi9
                subst hi9
                refine wpOp_of rfl (step_open (by rfl) ?_)
                go_simp
                have hbZ : Below X.heap.size X (((X.alloc (.cells #[.string z] 9)).alloc (.cells #[] 9)).drew) := (((Below.refl _ _).alloc (Nat.le_refl _) _).alloc (by simp) _).drew
                have e1 : (((X.alloc (.cells #[.string z] 9)).alloc (.cells #[] 9)).drew).heap[X.heap.size + 1]? = some (.cells #[] 9 (0, 0)) := heap_second X _ _
                have c10 : (((X.alloc (.cells #[.string z] 9)).alloc (.cells #[] 9)).drew).cell? ⟨X.heap.size, 0, none⟩ = some (.string z) := by
                  show ((X.alloc (.cells #[.string z] 9)).alloc (.cells #[] 9)).cell? ⟨X.heap.size, 0, none⟩ = _
                  simp only [World.cell?, heap_first X _ _]; rfl
                have hz1 : X.heap.size < (((X.alloc (.cells #[.string z] 9)).alloc (.cells #[] 9)).drew).heap.size := World.block_lt_of_cell? _ ⟨X.heap.size, 0, none⟩ c10
                refine ⟨HSX.out _ (((Below.refl _ _).alloc (Nat.le_refl _) _).alloc (by simp) _), ?_⟩
                generalize (((X.alloc (.cells #[.string z] 9)).alloc (.cells #[] 9)).drew) = Z at *
                refine wpTill.ready (rs := [5]) (by kernel_rfl) (by simp) ?_
                intro i9 hi9
                simp only [List.mem_cons, List.not_mem_nil, or_false] at hi9
                subst hi9
                refine wpOp_of rfl (step_append_own (by rfl) (.tmp 41) (.tmp 45) 22 rfl X.heap.size 9 j0 (.string ⟨#[]⟩) 1 16 Tryd.underlying22 hj0 hy0 hy1 hy2 rfl (by decide) (.slice (some ⟨X.heap.size + 1, 0, none⟩) 0 0) 0 [] (by rfl) (own_empty e1 (Nat.le_succ _)) ⟨g, 0, none⟩ a cN _ (by rfl) hl1 (HN1.out _ hbZ) h11 (by unfold maxLen; omega) (by omega) hbZ.size ?_)
                intro v5 w5 o5' g5 _
                have o5 : w5.ownsRow X.heap.size 9 1 v5 a ((strV (qs.map (nameAt nms))).take a) := by simpa using o5'
                have hb5 : Below X.heap.size X w5 := hbZ.grown g5 hbZ.size (fun j hj => by simp [Value.ownBlock] at hj; omega)
                clear o5'
                refine ⟨fun _ => HSX.out _ hb5, ?_⟩
                go_simp
                have c5 := (World.cell?_of_block (a := ⟨X.heap.size, 0, none⟩) (g5.block X.heap.size hz1 (by simp [Value.ownBlock]))).trans c10
                refine wpTill.ready (rs := [11]) (by kernel_rfl) (by simp) ?_
                intro i9 hi9
                simp only [List.mem_cons, List.not_mem_nil, or_false] at hi9
                subst hi9
                refine wpOp_of rfl (step_append_own (by rfl) (.tmp 46) (.tmp 51) 22 rfl X.heap.size 9 j0 (.string ⟨#[]⟩) 1 16 Tryd.underlying22 hj0 hy0 hy1 hy2 rfl (by decide) v5 a _ (by rfl) o5 ⟨X.heap.size, 0, none⟩ 1 1 [.string z] (by rfl) rfl (cell_oneR c5) (fun u hu => by simp only [List.mem_singleton] at hu; subst hu; rfl) (by unfold maxLen; omega) (by omega) hb5.size ?_)
                intro v11 w11 o11 g11 _
                have hb11 : Below X.heap.size X w11 := hb5.grown g11 hb5.size (fun j hj => (o5.lt j hj).1)
                refine ⟨fun _ => HSX.out _ hb11, ?_⟩
                clear g11
                go_simp
                refine wpTill.ready (rs := [16]) (by kernel_rfl) (by simp) ?_
                intro i9 hi9
                simp only [List.mem_cons, List.not_mem_nil, or_false] at hi9
                subst hi9
                refine wpOp_of rfl (step_append_own (by rfl) (.tmp 52) (.tmp 56) 22 rfl X.heap.size 9 j0 (.string ⟨#[]⟩) 1 16 Tryd.underlying22 hj0 hy0 hy1 hy2 rfl (by decide) v11 (a + 1) _ (by rfl) o11 D (k - a) (cN - a) _ (by rw [← hD]; rfl) hl2 (HN2.out _ hb11) h12 (by unfold maxLen; omega) (by omega) hb11.size ?_)
                intro v16 w16 o16' g16 _
                have hb16 : Below X.heap.size X w16 := hb11.grown g16 hb11.size (fun j hj => (o11.lt j hj).1)
                refine ⟨fun _ => HSX.out _ hb16, ?_⟩
                clear g16
                rw [show a + 1 + (k - a) = k + 1 from by omega] at o16'
                obtain ⟨a16, c16, e16⟩ := slice_ownM o16'
                subst e16
                have hbox : w16.heap[w.heap.size + 1]? = _ := (hb16.block (w.heap.size + 1) (Nat.lt_of_lt_of_le lt1 hUX.size)).trans ((hUX.block _ lt1).trans HM.out.box)
                obtain ⟨⟨t0, t1, t2, t3⟩, tf⟩ := block4 hbox
                have tf2 := tf 2
                clear tf
                go_simp
                refine wpTill.ready (rs := [17]) (by kernel_rfl) (by simp) ?_
                intro i9 hi9
                simp only [List.mem_cons, List.not_mem_nil, or_false] at hi9
                subst hi9
                refine wpOp_of rfl (step_open (by rfl) ?_)
                go_simp
                refine ⟨by first | exact HSX.out _ hb16 | exact (HSX.out _ hb16).2, ?_⟩
                refine wpTill.ready (rs := [18]) (by kernel_rfl) (by simp) ?_
                intro i9 hi9
                simp only [List.mem_cons, List.not_mem_nil, or_false] at hi9
                subst hi9
                refine wpOp_of rfl (step_open (by rfl) ?_)
                go_simp
                refine wpTill.done (by kernel_rfl) ?_ _
                refine act_eq (KONT.out (.slice (some ⟨X.heap.size + 1, 0, none⟩) 0 0) v5 (.slice (some ⟨X.heap.size, 0, none⟩) 1 1) v11 (.slice a16 (k + 1) c16) (.pointer (some ⟨w.heap.size + 1, 2, none⟩)) _ ⟨a16, c16, rfl, ?_, heap_setCell_same w16 _ 2 _ _ _ hbox, (OnlyL.of_below hb16).trans (OnlyL.set _ _ _ (by simp))⟩) (by kernel_rfl)
                exact owns_other o16' (Nat.lt_of_lt_of_le lt1 hUX.size)
          · by_cases hk0 : k = 0
            · subst hk0
              obtain rfl : a = 0 := by omega
              obtain ⟨e1, e2⟩ := HM.out.bare rfl
              simp only [Value.slice.injEq, true_and] at e1 e2
              obtain ⟨rfl, rfl⟩ := e1
              obtain ⟨rfl, rfl⟩ := e2
              obtain rfl : qs = [] := List.length_eq_zero_iff.1 HM.out.len.2
              obtain rfl : ls = [] := List.length_eq_zero_iff.1 HM.out.len.1
              have HZK : Hid (nameAt nms 0 = nms[0]) := nameAt_eq nms 0 hlt
              have hl0 : (0 : Int) < (nms.length : Int) := by omega
              generalize hz : nms[0] = z at *
              have N00 : wr.cell? ⟨bn, on, none⟩ = some (.string z) := N0
              clear HALL HQ n0 hz N0
              go_wp2_with fail
              go_quiet (fail)
              go_wp2_with fail
              have hbX : ∀ q, Below U.heap.size U (wr.drewN q) := fun q => below_drewN hbx q
              have Y2 : ∀ q, (wr.drewN q).cell? ⟨w.heap.size + 1, 2, none⟩ = some (.slice none 0 0) := fun q => ((hbX q).cell (p := ⟨w.heap.size + 1, 2, none⟩) lt1).trans tc2
              have YN : ∀ q, (wr.drewN q).cell? ⟨bn, on, none⟩ = some (.string z) := fun q => N00
              clear x2 N00 tc0 tc1 tc2 tc3
              generalize hX : wr.drewN _ = X at *
              have hS0 : X.cell? ⟨w.heap.size + 1, 2, none⟩ = some (.slice none 0 0) ∧ X.cell? ⟨bn, on, none⟩ = some (.string z) := ⟨hX ▸ Y2 _, hX ▸ YN _⟩
              have hUX : Below U.heap.size U X := hX ▸ hbX _
              have hWX : W1.heap.size ≤ X.heap.size := Nat.le_trans HM.out.only.size hUX.size
              have ltX : w.heap.size + 1 < X.heap.size := Nat.lt_of_lt_of_le lt1 hUX.size
              have hXU : X.heap[w.heap.size + 1]? = _ := (hUX.block _ lt1).trans HM.out.box
              refine wp_region_noPanic ?_
              refine wp_region_till (fun w' => w'.cell? ⟨w.heap.size + 1, 2, none⟩ = some (.slice none 0 0) ∧ w'.cell? ⟨bn, on, none⟩ = some (.string z)) 18 (by kernel_rfl) ?_
              refine wpTill.take (i := 1) (v := ?_) rfl rfl (by kernel_rfl) (by kernel_rfl) (by kernel_rfl) (by kernel_rfl) (fun _ _ _ h => h) (Or.inl ⟨by rfl, ?_⟩) hS0 ?_
              rotate_left
              · intro w9 hs9
                obtain ⟨s1, s2⟩ := hs9
                go_simp
                try rfl
              refine wpTill.take (i := 2) (v := ?_) rfl rfl (by kernel_rfl) (by kernel_rfl) (by kernel_rfl) (by kernel_rfl) (fun _ _ _ h => h) (Or.inl ⟨by rfl, ?_⟩) hS0 ?_
              rotate_left
              · intro w9 hs9
                obtain ⟨s1, s2⟩ := hs9
                go_simp
                try rfl
              refine wpTill.take (i := 3) (v := ?_) rfl rfl (by kernel_rfl) (by kernel_rfl) (by kernel_rfl) (by kernel_rfl) (fun _ _ _ h => h) (Or.inl ⟨by rfl, ?_⟩) hS0 ?_
              rotate_left
              · intro w9 hs9
                obtain ⟨s1, s2⟩ := hs9
                go_simp
                try rfl
              refine wpTill.take (i := 4) (v := ?_) rfl rfl (by kernel_rfl) (by kernel_rfl) (by kernel_rfl) (by kernel_rfl) (fun _ _ _ h => h) (Or.inl ⟨by rfl, ?_⟩) hS0 ?_
              rotate_left
              · intro w9 hs9
                obtain ⟨s1, s2⟩ := hs9
                go_simp
                try rfl
              refine wpTill.take (i := 6) (v := ?_) rfl rfl (by kernel_rfl) (by kernel_rfl) (by kernel_rfl) (by kernel_rfl) (fun _ _ _ h => h) (Or.inl ⟨by rfl, ?_⟩) hS0 ?_
              rotate_left
              · intro w9 hs9
                obtain ⟨s1, s2⟩ := hs9
                go_simp
                try rfl
              refine wpTill.take (i := 7) (v := ?_) rfl rfl (by kernel_rfl) (by kernel_rfl) (by kernel_rfl) (by kernel_rfl) (fun _ _ _ h => h) (Or.inl ⟨by rfl, ?_⟩) hS0 ?_
              rotate_left
              · intro w9 hs9
                obtain ⟨s1, s2⟩ := hs9
                go_simp
                try rfl
              refine wpTill.take (i := 8) (v := ?_) rfl rfl (by kernel_rfl) (by kernel_rfl) (by kernel_rfl) (by kernel_rfl) (fun _ _ _ h => h) (Or.inl ⟨by rfl, ?_⟩) hS0 ?_
              rotate_left
              · intro w9 hs9
                obtain ⟨s1, s2⟩ := hs9
                go_simp
                try rfl
              refine wpTill.take (i := 9) (v := ?_) rfl rfl (by kernel_rfl) (by kernel_rfl) (by kernel_rfl) (by kernel_rfl) (fun _ _ _ h => h) (Or.inl ⟨by rfl, ?_⟩) hS0 ?_
              rotate_left
              · intro w9 hs9
                obtain ⟨s1, s2⟩ := hs9
                go_simp
                try rfl
              refine wpTill.take (i := 12) (v := ?_) rfl rfl (by kernel_rfl) (by kernel_rfl) (by kernel_rfl) (by kernel_rfl) (fun _ _ _ h => h) (Or.inl ⟨by rfl, ?_⟩) hS0 ?_
              rotate_left
              · intro w9 hs9
                obtain ⟨s1, s2⟩ := hs9
                go_simp
                try rfl
              refine wpTill.take (i := 13) (v := ?_) rfl rfl (by kernel_rfl) (by kernel_rfl) (by kernel_rfl) (by kernel_rfl) (fun _ _ _ h => h) (Or.inl ⟨by rfl, ?_⟩) hS0 ?_
              rotate_left
              · intro w9 hs9
                obtain ⟨s1, s2⟩ := hs9
                go_simp
                try rfl
              refine wpTill.take (i := 14) (v := ?_) rfl rfl (by kernel_rfl) (by kernel_rfl) (by kernel_rfl) (by kernel_rfl) (fun _ _ _ h => h) (Or.inl ⟨by rfl, ?_⟩) hS0 ?_
              rotate_left
              · intro w9 hs9
                obtain ⟨s1, s2⟩ := hs9
                go_simp
                try rfl
              refine wpTill.take (i := 15) (v := ?_) rfl rfl (by kernel_rfl) (by kernel_rfl) (by kernel_rfl) (by kernel_rfl) (fun _ _ _ h => h) (Or.inl ⟨by rfl, ?_⟩) hS0 ?_
              rotate_left
              · intro w9 hs9
                obtain ⟨s1, s2⟩ := hs9
                go_simp
                try rfl
              have HSX : Hid (∀ Z : World, Below X.heap.size X Z → Z.cell? ⟨w.heap.size + 1, 2, none⟩ = some (.slice none 0 0) ∧ Z.cell? ⟨bn, on, none⟩ = some (.string z)) := fun Z hZ => ⟨(hZ.cell (p := ⟨w.heap.size + 1, 2, none⟩) (World.block_lt_of_cell? X _ hS0.1)).trans hS0.1, (hZ.cell (p := ⟨bn, on, none⟩) (World.block_lt_of_cell? X _ hS0.2)).trans hS0.2⟩
              go_simp
              refine till_kont 41 46 51 52 57 58 (fun v Y => ∃ (aa : Option Addr) (cc : Nat), v = .slice aa 1 cc ∧ Y.ownsRow X.heap.size 9 1 (.slice aa 1 cc) 1 [.string z] ∧ Y.heap[w.heap.size + 1]? = some (.cells #[.int .i64 5, .string ⟨#[]⟩, .slice aa 1 cc, .slice none 0 0] 28 (0, 0)) ∧ OnlyL [w.heap.size + 1] X Y) ?_ ?_
              · intro m1 m2 m3 m4 m5 m6 Y hF
                obtain ⟨aa, cc, rfl, oY, bY, onY⟩ := hF
                obtain ⟨⟨_, _, _, y3⟩, _⟩ := block4 bY
                have hkl : 0 < ks.length := by have := HNE.out; omega
                have kl0 : (0 : Int) < (ks.length : Int) := by omega
                obtain ⟨bk, ok, rfl, hbk, hcl⟩ := HCC.out 0 hkl
                have hta := HCA.out 0 hkl
                obtain ⟨an2, ln2, cn2, ak2, lk2, ck2, ee⟩ := hta.shape
                have hbwY : Below w.heap.size w Y := (hbw.trans (hUX.mono (by omega))).trans (onY.below (fun x hx => by simp only [List.mem_singleton] at hx; omega) (by have := hUX.size; omega))
                have A0 : Y.cell? ⟨bk, ok, none⟩ = some (.int .i64 (kidAt ks 0).kind) := (hbwY.cell (p := ⟨bk, ok, none⟩) hbk).trans (hcl 0 _ (by rw [ee]; rfl))
                have A1 : Y.cell? ⟨bk, ok + 1, none⟩ = some (.string (kidAt ks 0).name) := (hbwY.cell (p := ⟨bk, ok + 1, none⟩) hbk).trans (hcl 1 _ (by rw [ee]; rfl))
                have A2 : Y.cell? ⟨bk, ok + 2, none⟩ = some (.slice an2 ln2 cn2) := (hbwY.cell (p := ⟨bk, ok + 2, none⟩) hbk).trans (hcl 2 _ (by rw [ee]; rfl))
                have A3 : Y.cell? ⟨bk, ok + 3, none⟩ = some (.slice ak2 lk2 ck2) := (hbwY.cell (p := ⟨bk, ok + 3, none⟩) hbk).trans (hcl 3 _ (by rw [ee]; rfl))
                have hbu : Ty.bulk n (kidAt ks 0) ≤ 1048576 := by
                  have h1 := kid_bulk n ks 0 hkl
                  have h2 := HBK.out
                  rw [kidAt_eq ks 0 hkl]
                  unfold rowBulk at h2
                  omega
                have HCP : Hid (∀ wx : World, Below w.heap.size w wx → Calls Tryd.prog 18 #[.agg #[.int .i64 (kidAt ks 0).kind, .string (kidAt ks 0).name, .slice an2 ln2 cn2, .slice ak2 lk2 ck2]] wx fun e w' => ∃ (an3 : Option Addr) (cn3 : Nat) (ak3 : Option Addr) (ck3 : Nat), e = .returned (.agg #[.int .i64 (kidAt ks 0).kind, .string (kidAt ks 0).name, .slice an3 (kidAt ks 0).names.length cn3, .slice ak3 (kidAt ks 0).kids.length ck3]) ∧ (∃ l, cellsK (kidAt ks 0) l = [.int .i64 (kidAt ks 0).kind, .string (kidAt ks 0).name, .slice an3 (kidAt ks 0).names.length cn3, .slice ak3 (kidAt ks 0).kids.length ck3] ∧ NewLay wx.heap.size w' n l (kidAt ks 0)) ∧ Below wx.heap.size wx w') := fun wx hx => by
                  have := specCopy n (C 0) (kidAt ks 0) wx (hta.below hx) hbu
                  rw [ee] at this
                  refine this.mono ?_
                  rintro e w' ⟨l, rfl, hl, hb⟩
                  obtain ⟨an3, cn3, ak3, ck3, e3⟩ := lay_cellsN hl.1
                  exact ⟨an3, cn3, ak3, ck3, by rw [e3], ⟨l, e3, hl⟩, hb⟩
                have HYZ : Hid (W1.heap.size ≤ Y.heap.size ∧ w.heap.size ≤ Y.heap.size) := ⟨by have := onY.size; omega, hbwY.size⟩
                have hSY : Y.cell? ⟨w.heap.size + 1, 3, none⟩ = some (.slice none 0 0) ∧ Y.cell? ⟨bk, ok, none⟩ = some (.int .i64 (kidAt ks 0).kind) ∧ Y.cell? ⟨bk, ok + 1, none⟩ = some (.string (kidAt ks 0).name) ∧ Y.cell? ⟨bk, ok + 2, none⟩ = some (.slice an2 ln2 cn2) ∧ Y.cell? ⟨bk, ok + 3, none⟩ = some (.slice ak2 lk2 ck2) := ⟨y3, A0, A1, A2, A3⟩
                have HSY : Hid (∀ Z : World, Below Y.heap.size Y Z → Z.cell? ⟨w.heap.size + 1, 3, none⟩ = some (.slice none 0 0) ∧ Z.cell? ⟨bk, ok, none⟩ = some (.int .i64 (kidAt ks 0).kind) ∧ Z.cell? ⟨bk, ok + 1, none⟩ = some (.string (kidAt ks 0).name) ∧ Z.cell? ⟨bk, ok + 2, none⟩ = some (.slice an2 ln2 cn2) ∧ Z.cell? ⟨bk, ok + 3, none⟩ = some (.slice ak2 lk2 ck2)) := fun Z hZ => by
                  have hq : bk < Y.heap.size := World.block_lt_of_cell? Y _ A0
                  exact ⟨(hZ.cell (p := ⟨w.heap.size + 1, 3, none⟩) (World.block_lt_of_cell? Y _ y3)).trans y3, (hZ.cell (p := ⟨bk, ok, none⟩) hq).trans A0, (hZ.cell (p := ⟨bk, ok + 1, none⟩) hq).trans A1, (hZ.cell (p := ⟨bk, ok + 2, none⟩) hq).trans A2, (hZ.cell (p := ⟨bk, ok + 3, none⟩) hq).trans A3⟩
                clear hcl ee A0 A1 A2 A3 y3 hta hbu
                generalize hq0 : kidAt ks 0 = q at *
                refine NoPanic.normal ?_
                go_simp
                go_wp2_with fail
                refine wp_region_noPanic ?_
                refine wp_region_till (fun w' => w'.cell? ⟨w.heap.size + 1, 3, none⟩ = some (.slice none 0 0) ∧ w'.cell? ⟨bk, ok, none⟩ = some (.int .i64 q.kind) ∧ w'.cell? ⟨bk, ok + 1, none⟩ = some (.string q.name) ∧ w'.cell? ⟨bk, ok + 2, none⟩ = some (.slice an2 ln2 cn2) ∧ w'.cell? ⟨bk, ok + 3, none⟩ = some (.slice ak2 lk2 ck2)) 19 (by kernel_rfl) ?_
                refine wpTill.take (i := 1) (v := ?_) rfl rfl (by kernel_rfl) (by kernel_rfl) (by kernel_rfl) (by kernel_rfl) (fun _ _ _ h => h) (Or.inl ⟨by rfl, ?_⟩) hSY ?_
                rotate_left
                · intro w9 hs9
                  obtain ⟨s0, s1, s2, s3, s4⟩ := hs9
                  go_simp
                  try rfl
                refine wpTill.take (i := 2) (v := ?_) rfl rfl (by kernel_rfl) (by kernel_rfl) (by kernel_rfl) (by kernel_rfl) (fun _ _ _ h => h) (Or.inl ⟨by rfl, ?_⟩) hSY ?_
                rotate_left
                · intro w9 hs9
                  obtain ⟨s0, s1, s2, s3, s4⟩ := hs9
                  go_simp
                  try rfl
                refine wpTill.take (i := 3) (v := ?_) rfl rfl (by kernel_rfl) (by kernel_rfl) (by kernel_rfl) (by kernel_rfl) (fun _ _ _ h => h) (Or.inl ⟨by rfl, ?_⟩) hSY ?_
                rotate_left
                · intro w9 hs9
                  obtain ⟨s0, s1, s2, s3, s4⟩ := hs9
                  go_simp
                  try rfl
                refine wpTill.take (i := 4) (v := ?_) rfl rfl (by kernel_rfl) (by kernel_rfl) (by kernel_rfl) (by kernel_rfl) (fun _ _ _ h => h) (Or.inl ⟨by rfl, ?_⟩) hSY ?_
                rotate_left
                · intro w9 hs9
                  obtain ⟨s0, s1, s2, s3, s4⟩ := hs9
                  go_simp
                  try rfl
                refine wpTill.take (i := 6) (v := ?_) rfl rfl (by kernel_rfl) (by kernel_rfl) (by kernel_rfl) (by kernel_rfl) (fun _ _ _ h => h) (Or.inl ⟨by rfl, ?_⟩) hSY ?_
                rotate_left
                · intro w9 hs9
                  obtain ⟨s0, s1, s2, s3, s4⟩ := hs9
                  go_simp
                  try rfl
                refine wpTill.take (i := 7) (v := ?_) rfl rfl (by kernel_rfl) (by kernel_rfl) (by kernel_rfl) (by kernel_rfl) (fun _ _ _ h => h) (Or.inl ⟨by rfl, ?_⟩) hSY ?_
                rotate_left
                · intro w9 hs9
                  obtain ⟨s0, s1, s2, s3, s4⟩ := hs9
                  go_simp
                  try rfl
                refine wpTill.take (i := 8) (v := ?_) rfl rfl (by kernel_rfl) (by kernel_rfl) (by kernel_rfl) (by kernel_rfl) (fun _ _ _ h => h) (Or.inl ⟨by rfl, ?_⟩) hSY ?_
                rotate_left
                · intro w9 hs9
                  obtain ⟨s0, s1, s2, s3, s4⟩ := hs9
                  go_simp
                  try rfl
                refine wpTill.take (i := 9) (v := ?_) rfl rfl (by kernel_rfl) (by kernel_rfl) (by kernel_rfl) (by kernel_rfl) (fun _ _ _ h => h) (Or.inl ⟨by rfl, ?_⟩) hSY ?_
                rotate_left
                · intro w9 hs9
                  obtain ⟨s0, s1, s2, s3, s4⟩ := hs9
                  go_simp
                  try rfl
                refine wpTill.take (i := 13) (v := ?_) rfl rfl (by kernel_rfl) (by kernel_rfl) (by kernel_rfl) (by kernel_rfl) (fun _ _ _ h => h) (Or.inl ⟨by rfl, ?_⟩) hSY ?_
                rotate_left
                · intro w9 hs9
                  obtain ⟨s0, s1, s2, s3, s4⟩ := hs9
                  go_simp
                  try rfl
                refine wpTill.take (i := 14) (v := ?_) rfl rfl (by kernel_rfl) (by kernel_rfl) (by kernel_rfl) (by kernel_rfl) (fun _ _ _ h => h) (Or.inl ⟨by rfl, ?_⟩) hSY ?_
                rotate_left
                · intro w9 hs9
                  obtain ⟨s0, s1, s2, s3, s4⟩ := hs9
                  go_simp
                  try rfl
                refine wpTill.take (i := 15) (v := ?_) rfl rfl (by kernel_rfl) (by kernel_rfl) (by kernel_rfl) (by kernel_rfl) (fun _ _ _ h => h) (Or.inl ⟨by rfl, ?_⟩) hSY ?_
                rotate_left
                · intro w9 hs9
                  obtain ⟨s0, s1, s2, s3, s4⟩ := hs9
                  go_simp
                  try rfl
                refine wpTill.take (i := 16) (v := ?_) rfl rfl (by kernel_rfl) (by kernel_rfl) (by kernel_rfl) (by kernel_rfl) (fun _ _ _ h => h) (Or.inl ⟨by rfl, ?_⟩) hSY ?_
                rotate_left
                · intro w9 hs9
                  obtain ⟨s0, s1, s2, s3, s4⟩ := hs9
                  go_simp
                  try rfl
                go_simp
                refine wpTill.ready (rs := [0]) (by kernel_rfl) (by simp) ?_
                intro i9 hi9
                simp only [List.mem_cons, List.not_mem_nil, or_false] at hi9
                subst hi9
                refine wpOp_of rfl (step_open (by rfl) ?_)
                go_simp
                have hb0 : Below Y.heap.size Y ((Y.alloc (.cells #[] 28)).drew) := ((Below.refl _ _).alloc (Nat.le_refl _) _).drew
                have e0 : ((Y.alloc (.cells #[] 28)).drew).heap[Y.heap.size]? = some (.cells #[] 28 (0, 0)) := (MapKept.heap_alloc Y _).1
                refine ⟨HSY.out _ ((Below.refl _ _).alloc (Nat.le_refl _) _), ?_⟩
                generalize ((Y.alloc (.cells #[] 28)).drew) = w5 at *
                refine wpTill.ready (rs := [5]) (by kernel_rfl) (by simp) ?_
                intro i9 hi9
                simp only [List.mem_cons, List.not_mem_nil, or_false] at hi9
                subst hi9
                refine wpOp_of rfl (step_open (by rfl) ?_)
                go_simp
                refine ⟨by first | exact HSY.out _ hb0 | exact (HSY.out _ hb0).2, ?_⟩
                have o5 : w5.ownsRow Y.heap.size 28 4 (.slice (some ⟨Y.heap.size, 0, none⟩) 0 0) 0 [] := own_empty4 e0 (Nat.le_refl _)
                clear e0
                refine wpTill.ready (rs := [10]) (by kernel_rfl) (by simp) ?_
                intro i9 hi9
                simp only [List.mem_cons, List.not_mem_nil, or_false] at hi9
                subst hi9
                have hbw5 : Below w.heap.size w w5 := hbwY.trans (hb0.mono HYZ.out.2)
                refine wpOp_of rfl (step_open (by rfl) ?_)
                go_simp
                go_at_call 18
                refine (HCP.out _ hbw5).mono ?_
                rintro e w6 ⟨an3, cn3, ak3, ck3, rfl, ⟨l, ecl, hnl⟩, hb6'⟩
                have o6 := kept_belowT o5 hb6'
                have hb6 := hb0.trans (hb6'.mono hb0.size)
                have hnl6 : NewLay w5.heap.size w6 n l q := hnl
                have hfar : Y.heap.size < w5.heap.size := (o5.lt _ rfl).2
                have hY5 := hb0.size
                clear hnl hb6' o5 hbw5 hb0
                refine ⟨HSY.out _ hb6, ?_⟩
                go_simp
                refine wpTill.ready (rs := [11]) (by kernel_rfl) (by simp) ?_
                intro i9 hi9
                simp only [List.mem_cons, List.not_mem_nil, or_false] at hi9
                subst hi9
                refine wpOp_of rfl (step_open (by rfl) ?_)
                go_simp
                have hb7 : Below Y.heap.size Y (w6.alloc (.cells #[.int .i64 q.kind, .string q.name, .slice an3 q.names.length cn3, .slice ak3 q.kids.length ck3] 28)) := hb6.alloc hb6.size _
                have o7 := o6.alloc (.cells #[.int .i64 q.kind, .string q.name, .slice an3 q.names.length cn3, .slice ak3 q.kids.length ck3] 28)
                have n7 := World.news_of_block (cs := #[.int .i64 q.kind, .string q.name, .slice an3 q.names.length cn3, .slice ak3 q.kids.length ck3]) (t := 28) (fr := (0, 0)) (heap_alloc_new w6 _)
                have hnl7 := hnl6.below ((Below.refl _ w6).alloc (Nat.le_refl _) (.cells #[.int .i64 q.kind, .string q.name, .slice an3 q.names.length cn3, .slice ak3 q.kids.length ck3] 28))
                refine ⟨HSY.out _ hb7, ?_⟩
                clear o6 hb6 hnl6
                generalize (w6.alloc (.cells #[.int .i64 q.kind, .string q.name, .slice an3 q.names.length cn3, .slice ak3 q.kids.length ck3] 28)) = Z at *
                refine wpTill.ready (rs := [12]) (by kernel_rfl) (by simp) ?_
                intro i9 hi9
                simp only [List.mem_cons, List.not_mem_nil, or_false] at hi9
                subst hi9
                refine wpOp_of rfl (step_append_lies _ (by rfl) (.tmp 64) (.tmp 70) 26 (by rfl) Y.heap.size 28 i0 _ 4 72 Tryd.underlying26 hi0 hz0 hz1 hz2 rfl (by decide) (.slice (some ⟨Y.heap.size, 0, none⟩) 0 0) 0 [] (by rfl) o7 ⟨w6.heap.size, 0, none⟩ 1 1 [.int .i64 q.kind, .string q.name, .slice an3 q.names.length cn3, .slice ak3 q.kids.length ck3] (by rfl) rfl n7 (by simp [Value.oneCell']) (by omega) (by unfold maxLen; omega) (by omega) hb7.size Z.heap.size rfl ?_)
                intro gg gc w11 o11 g11 hat hlt11
                have hb11 : Below Y.heap.size Y w11 := hb7.grown g11 hb7.size (fun j hj => (o7.lt j hj).1)
                have hne7 : ∀ b ∈ Lay.blocks n l, b < Z.heap.size ∧ (Value.slice (some ⟨Y.heap.size, 0, none⟩) 0 0).ownBlock ≠ some b := fun b hb => ⟨hnl7.1.lt hb, fun e => by have := hnl7.2.2 b hb; simp only [Value.ownBlock, Option.some.injEq] at e; omega⟩
                have hnl11 : LayAt w11 n l q := hnl7.1.same fun b hb => g11.block b (hne7 b hb).1 (fun e => (hne7 b hb).2 e.symm)
                have hlb11 : ∀ b ∈ Lay.blocks n l, Y.heap.size ≤ b := fun b hb => Nat.le_trans hY5 (hnl7.2.2 b hb)
                refine ⟨fun _ => HSY.out _ hb11, ?_⟩
                clear g11 n7 o7 hb7 hat
                have o11' : w11.ownsRow Y.heap.size 28 4 (.slice (some ⟨gg, 0, none⟩) 1 gc) 1 [.int .i64 q.kind, .string q.name, .slice an3 q.names.length cn3, .slice ak3 q.kids.length ck3] := o11
                clear o11
                have hgc : 1 ≤ gc := own_cap o11'
                go_simp
                refine wpTill.ready (rs := [17]) (by kernel_rfl) (by simp) ?_
                intro i9 hi9
                simp only [List.mem_cons, List.not_mem_nil, or_false] at hi9
                subst hi9
                refine wpOp_of rfl (step_open (by rfl) ?_)
                go_simp
                refine ⟨by first | exact HSY.out _ hb11 | exact (HSY.out _ hb11).2, ?_⟩
                have hTY : w.heap.size + 1 < Y.heap.size := (Array.getElem?_eq_some_iff.1 bY).1
                have hbox : w11.heap[w.heap.size + 1]? = _ := (hb11.block (w.heap.size + 1) hTY).trans bY
                obtain ⟨⟨t0, t1, t2, t3⟩, tf⟩ := block4 hbox
                have tf2 := tf 3
                clear tf
                refine wpTill.ready (rs := [18]) (by kernel_rfl) (by simp) ?_
                intro i9 hi9
                simp only [List.mem_cons, List.not_mem_nil, or_false] at hi9
                subst hi9
                refine wpOp_of rfl (step_open (by rfl) ?_)
                go_simp
                refine ⟨by first | exact HSY.out _ hb11 | exact (HSY.out _ hb11).2, ?_⟩
                refine wpTill.ready (rs := [19]) (by kernel_rfl) (by simp) ?_
                intro i9 hi9
                simp only [List.mem_cons, List.not_mem_nil, or_false] at hi9
                subst hi9
                refine wpOp_of rfl (step_open (by rfl) ?_)
                go_simp
                refine wpTill.done (by kernel_rfl) ?_ _
                refine NoPanic.normal ?_
                have R1 : RecM W1 (w11.setCell ⟨w.heap.size + 1, 3, none⟩ (.slice (some ⟨gg, 0, none⟩) 1 gc)) (w.heap.size + 1) n nms ks (0 + 1) ([].take 0 ++ [0] ++ [].drop 0) (.slice aa 1 cc) (.slice (some ⟨gg, 0, none⟩) 1 gc) ([].take 0 ++ [l] ++ [].drop 0) := by
                  refine HM.out.ins (Nat.le_refl 0) (heap_setCell_same w11 _ 3 _ _ _ hbox) ?_ ?_ (by rw [hq0]; exact hnl11.same fun b hb => Below.heap_setCell _ _ _ _ (fun e => by have := hlb11 b hb; simp only at e; omega)) (fun b hb => Nat.le_trans HYZ.out.1 (hlb11 b hb)) (((OnlyL.of_below hUX).trans onY).trans ((OnlyL.of_below hb11).trans (OnlyL.set _ _ _ (by simp)))) (fun j h => absurd h (by simp)) (fun j h => absurd h (by simp))
                  · rw [HZK.out]; simpa [strV] using owns_other (own_base (kept_belowT oY hb11) hWX) HM.out.lt
                  · rw [hq0, ecl]; simpa [flatK] using owns_other (own_base o11' HYZ.out.1) HM.out.lt
                have HR1 : Hid (type_of% R1) := R1
                clear R1 t0 t1 t2 t3 tf2 o11' hb11 hbox hSY HSY HSX hS0
                go_wp2_with fail
                go_roundw
                case rel => exact ⟨1, _, _, _, _, by omega, by go_num, HR1.out⟩
                case measure => simp [intOf]; omega
              intro KONT
              refine wpTill.ready (rs := [0, 10]) (by kernel_rfl) (by simp) ?_
              intro i9 hi9
              simp only [List.mem_cons, List.not_mem_nil, or_false] at hi9
              rcases hi9 with rfl | rfl
              · refine wpOp_of rfl (step_open (by rfl) ?_)
                go_simp
                have hb0 : Below X.heap.size X ((X.alloc (.cells #[] 9)).drew) := ((Below.refl _ _).alloc (Nat.le_refl _) _).drew
                have e0 : ((X.alloc (.cells #[] 9)).drew).heap[X.heap.size]? = some (.cells #[] 9 (0, 0)) := (MapKept.heap_alloc X _).1
                refine ⟨by first | exact HSX.out _ ((Below.refl _ _).alloc (Nat.le_refl _) _) | exact (HSX.out _ ((Below.refl _ _).alloc (Nat.le_refl _) _)).2, ?_⟩
                generalize ((X.alloc (.cells #[] 9)).drew) = X0 at *
                have o0 : X0.ownsRow X.heap.size 9 1 (.slice (some ⟨X.heap.size, 0, none⟩) 0 0) 0 [] := own_empty e0 (Nat.le_refl _)
                refine wpTill.ready (rs := [5, 10]) (by kernel_rfl) (by simp) ?_
                intro i9 hi9
                simp only [List.mem_cons, List.not_mem_nil, or_false] at hi9
                rcases hi9 with rfl | rfl
                · refine wpOp_of rfl (step_open (by rfl) ?_)
                  go_simp
                  refine ⟨by first | exact HSX.out _ hb0 | exact (HSX.out _ hb0).2, ?_⟩
                  refine wpTill.ready (rs := [10]) (by kernel_rfl) (by simp) ?_
                  intro i9 hi9
                  simp only [List.mem_cons, List.not_mem_nil, or_false] at hi9
                  subst hi9
                  refine wpOp_of rfl (step_open (by rfl) ?_)
                  go_simp
                  have hbZ : Below X.heap.size X (X0.alloc (.cells #[.string z] 9)) := hb0.alloc hb0.size _
                  have c10 : (X0.alloc (.cells #[.string z] 9)).cell? ⟨X0.heap.size, 0, none⟩ = some (.string z) := by rw [cellNew _ rfl]; rfl
                  have oZ := o0.alloc (.cells #[.string z] 9)
                  refine ⟨by first | exact HSX.out _ hbZ | exact (HSX.out _ hbZ).2, ?_⟩
                  generalize (X0.alloc (.cells #[.string z] 9)) = Z at *
                  refine wpTill.ready (rs := [11]) (by kernel_rfl) (by simp) ?_
                  intro i9 hi9
                  simp only [List.mem_cons, List.not_mem_nil, or_false] at hi9
                  subst hi9
                  refine wpOp_of rfl (step_append_own (by rfl) (.tmp 46) (.tmp 51) 22 rfl X.heap.size 9 j0 (.string ⟨#[]⟩) 1 16 Tryd.underlying22 hj0 hy0 hy1 hy2 rfl (by decide) (.slice (some ⟨X.heap.size, 0, none⟩) 0 0) 0 [] (by rfl) oZ ⟨X0.heap.size, 0, none⟩ 1 1 [.string z] (by rfl) rfl (cell_oneR c10) (fun u hu => by simp only [List.mem_singleton] at hu; subst hu; rfl) (by unfold maxLen; omega) (by omega) hbZ.size ?_)
                  intro v11 w11 o11' g11 _
                  have hb11 : Below X.heap.size X w11 := hbZ.grown g11 hbZ.size (fun j hj => (oZ.lt j hj).1)
                  have o11 : w11.ownsRow X.heap.size 9 1 v11 1 [.string z] := by simpa using o11'
                  refine ⟨fun _ => HSX.out _ hb11, ?_⟩
                  clear g11 o11'
                  obtain ⟨a16, c16, e16⟩ := slice_ownM o11
                  subst e16
                  obtain ⟨g16, rfl⟩ := own_some o11 (by omega)
                  have hc16 : 1 ≤ c16 := own_cap o11
                  go_simp
                  refine wpTill.ready (rs := [16]) (by kernel_rfl) (by simp) ?_
                  intro i9 hi9
                  simp only [List.mem_cons, List.not_mem_nil, or_false] at hi9
                  subst hi9
                  refine wpOp_of rfl (step_open (by rfl) ?_)
                  go_simp
                  refine ⟨by first | exact HSX.out _ hb11 | exact (HSX.out _ hb11).2, ?_⟩
                  have hbox : w11.heap[w.heap.size + 1]? = _ := (hb11.block (w.heap.size + 1) ltX).trans hXU
                  obtain ⟨⟨t0, t1, t2, t3⟩, tf⟩ := block4 hbox
                  have tf2 := tf 2
                  clear tf
                  refine wpTill.ready (rs := [17]) (by kernel_rfl) (by simp) ?_
                  intro i9 hi9
                  simp only [List.mem_cons, List.not_mem_nil, or_false] at hi9
                  subst hi9
                  refine wpOp_of rfl (step_open (by rfl) ?_)
                  go_simp
                  refine ⟨by first | exact HSX.out _ hb11 | exact (HSX.out _ hb11).2, ?_⟩
                  refine wpTill.ready (rs := [18]) (by kernel_rfl) (by simp) ?_
                  intro i9 hi9
                  simp only [List.mem_cons, List.not_mem_nil, or_false] at hi9
                  subst hi9
                  refine wpOp_of rfl (step_open (by rfl) ?_)
                  go_simp
                  refine wpTill.done (by kernel_rfl) ?_ _
                  refine act_eq (KONT.out (.slice (some ⟨X.heap.size, 0, none⟩) 0 0) (.slice (some ⟨X.heap.size, 0, none⟩) 0 0) (.slice (some ⟨X0.heap.size, 0, none⟩) 1 1) (.slice (some ⟨g16, 0, none⟩) 1 c16) (.slice (some ⟨g16, 0, none⟩) 1 c16) (.pointer (some ⟨w.heap.size + 1, 2, none⟩)) _ ⟨some ⟨g16, 0, none⟩, c16, rfl, ?_, heap_setCell_same w11 _ 2 _ _ _ hbox, (OnlyL.of_below hb11).trans (OnlyL.set _ _ _ (by simp))⟩) (by kernel_rfl)
                  exact owns_other o11 ltX
                · refine wpOp_of rfl (step_open (by rfl) ?_)
                  go_simp
                  have hbZ : Below X.heap.size X (X0.alloc (.cells #[.string z] 9)) := hb0.alloc hb0.size _
                  have c10 : (X0.alloc (.cells #[.string z] 9)).cell? ⟨X0.heap.size, 0, none⟩ = some (.string z) := by rw [cellNew _ rfl]; rfl
                  have oZ := o0.alloc (.cells #[.string z] 9)
                  refine ⟨by first | exact HSX.out _ hbZ | exact (HSX.out _ hbZ).2, ?_⟩
                  generalize (X0.alloc (.cells #[.string z] 9)) = Z at *
                  refine wpTill.ready (rs := [5]) (by kernel_rfl) (by simp) ?_
                  intro i9 hi9
                  simp only [List.mem_cons, List.not_mem_nil, or_false] at hi9
                  subst hi9
                  refine wpOp_of rfl (step_open (by rfl) ?_)
                  go_simp
                  refine ⟨by first | exact HSX.out _ hbZ | exact (HSX.out _ hbZ).2, ?_⟩
                  refine wpTill.ready (rs := [11]) (by kernel_rfl) (by simp) ?_
                  intro i9 hi9
                  simp only [List.mem_cons, List.not_mem_nil, or_false] at hi9
                  subst hi9
                  refine wpOp_of rfl (step_append_own (by rfl) (.tmp 46) (.tmp 51) 22 rfl X.heap.size 9 j0 (.string ⟨#[]⟩) 1 16 Tryd.underlying22 hj0 hy0 hy1 hy2 rfl (by decide) (.slice (some ⟨X.heap.size, 0, none⟩) 0 0) 0 [] (by rfl) oZ ⟨X0.heap.size, 0, none⟩ 1 1 [.string z] (by rfl) rfl (cell_oneR c10) (fun u hu => by simp only [List.mem_singleton] at hu; subst hu; rfl) (by unfold maxLen; omega) (by omega) hbZ.size ?_)
                  intro v11 w11 o11' g11 _
                  have hb11 : Below X.heap.size X w11 := hbZ.grown g11 hbZ.size (fun j hj => (oZ.lt j hj).1)
                  have o11 : w11.ownsRow X.heap.size 9 1 v11 1 [.string z] := by simpa using o11'
                  refine ⟨fun _ => HSX.out _ hb11, ?_⟩
                  clear g11 o11'
                  obtain ⟨a16, c16, e16⟩ := slice_ownM o11
                  subst e16
                  obtain ⟨g16, rfl⟩ := own_some o11 (by omega)
                  have hc16 : 1 ≤ c16 := own_cap o11
                  go_simp
                  refine wpTill.ready (rs := [16]) (by kernel_rfl) (by simp) ?_
                  intro i9 hi9
                  simp only [List.mem_cons, List.not_mem_nil, or_false] at hi9
                  subst hi9
                  refine wpOp_of rfl (step_open (by rfl) ?_)
                  go_simp
                  refine ⟨by first | exact HSX.out _ hb11 | exact (HSX.out _ hb11).2, ?_⟩
                  have hbox : w11.heap[w.heap.size + 1]? = _ := (hb11.block (w.heap.size + 1) ltX).trans hXU
                  obtain ⟨⟨t0, t1, t2, t3⟩, tf⟩ := block4 hbox
                  have tf2 := tf 2
                  clear tf
                  refine wpTill.ready (rs := [17]) (by kernel_rfl) (by simp) ?_
                  intro i9 hi9
                  simp only [List.mem_cons, List.not_mem_nil, or_false] at hi9
                  subst hi9
                  refine wpOp_of rfl (step_open (by rfl) ?_)
                  go_simp
                  refine ⟨by first | exact HSX.out _ hb11 | exact (HSX.out _ hb11).2, ?_⟩
                  refine wpTill.ready (rs := [18]) (by kernel_rfl) (by simp) ?_
                  intro i9 hi9
                  simp only [List.mem_cons, List.not_mem_nil, or_false] at hi9
                  subst hi9
                  refine wpOp_of rfl (step_open (by rfl) ?_)
                  go_simp
                  refine wpTill.done (by kernel_rfl) ?_ _
                  refine act_eq (KONT.out (.slice (some ⟨X.heap.size, 0, none⟩) 0 0) (.slice (some ⟨X.heap.size, 0, none⟩) 0 0) (.slice (some ⟨X0.heap.size, 0, none⟩) 1 1) (.slice (some ⟨g16, 0, none⟩) 1 c16) (.slice (some ⟨g16, 0, none⟩) 1 c16) (.pointer (some ⟨w.heap.size + 1, 2, none⟩)) _ ⟨some ⟨g16, 0, none⟩, c16, rfl, ?_, heap_setCell_same w11 _ 2 _ _ _ hbox, (OnlyL.of_below hb11).trans (OnlyL.set _ _ _ (by simp))⟩) (by kernel_rfl)
                  exact owns_other o11 ltX
              · refine wpOp_of rfl (step_open (by rfl) ?_)
                go_simp
                refine ⟨by first | exact HSX.out _ ((Below.refl _ _).alloc (Nat.le_refl _) _) | exact (HSX.out _ ((Below.refl _ _).alloc (Nat.le_refl _) _)).2, ?_⟩
                refine wpTill.ready (rs := [0]) (by kernel_rfl) (by simp) ?_
                intro i9 hi9
                simp only [List.mem_cons, List.not_mem_nil, or_false] at hi9
                subst hi9
                refine wpOp_of rfl (step_open (by rfl) ?_)
                go_simp
                have hbZ : Below X.heap.size X (((X.alloc (.cells #[.string z] 9)).alloc (.cells #[] 9)).drew) := (((Below.refl _ _).alloc (Nat.le_refl _) _).alloc (by simp) _).drew
                have e1 : (((X.alloc (.cells #[.string z] 9)).alloc (.cells #[] 9)).drew).heap[X.heap.size + 1]? = some (.cells #[] 9 (0, 0)) := heap_second X _ _
                have c10 : (((X.alloc (.cells #[.string z] 9)).alloc (.cells #[] 9)).drew).cell? ⟨X.heap.size, 0, none⟩ = some (.string z) := by
                  show ((X.alloc (.cells #[.string z] 9)).alloc (.cells #[] 9)).cell? ⟨X.heap.size, 0, none⟩ = _
                  simp only [World.cell?, heap_first X _ _]; rfl
                refine ⟨by first | exact HSX.out _ (((Below.refl _ _).alloc (Nat.le_refl _) _).alloc (by simp) _) | exact (HSX.out _ (((Below.refl _ _).alloc (Nat.le_refl _) _).alloc (by simp) _)).2, ?_⟩
                generalize (((X.alloc (.cells #[.string z] 9)).alloc (.cells #[] 9)).drew) = Z at *
                have oZ : Z.ownsRow X.heap.size 9 1 (.slice (some ⟨X.heap.size + 1, 0, none⟩) 0 0) 0 [] := own_empty e1 (Nat.le_succ _)
                refine wpTill.ready (rs := [5]) (by kernel_rfl) (by simp) ?_
                intro i9 hi9
                simp only [List.mem_cons, List.not_mem_nil, or_false] at hi9
                subst hi9
                refine wpOp_of rfl (step_open (by rfl) ?_)
                go_simp
                refine ⟨by first | exact HSX.out _ hbZ | exact (HSX.out _ hbZ).2, ?_⟩
                refine wpTill.ready (rs := [11]) (by kernel_rfl) (by simp) ?_
                intro i9 hi9
                simp only [List.mem_cons, List.not_mem_nil, or_false] at hi9
                subst hi9
                refine wpOp_of rfl (step_append_own (by rfl) (.tmp 46) (.tmp 51) 22 rfl X.heap.size 9 j0 (.string ⟨#[]⟩) 1 16 Tryd.underlying22 hj0 hy0 hy1 hy2 rfl (by decide) (.slice (some ⟨X.heap.size + 1, 0, none⟩) 0 0) 0 [] (by rfl) oZ ⟨X.heap.size, 0, none⟩ 1 1 [.string z] (by rfl) rfl (cell_oneR c10) (fun u hu => by simp only [List.mem_singleton] at hu; subst hu; rfl) (by unfold maxLen; omega) (by omega) hbZ.size ?_)
                intro v11 w11 o11' g11 _
                have hb11 : Below X.heap.size X w11 := hbZ.grown g11 hbZ.size (fun j hj => (oZ.lt j hj).1)
                have o11 : w11.ownsRow X.heap.size 9 1 v11 1 [.string z] := by simpa using o11'
                refine ⟨fun _ => HSX.out _ hb11, ?_⟩
                clear g11 o11'
                obtain ⟨a16, c16, e16⟩ := slice_ownM o11
                subst e16
                obtain ⟨g16, rfl⟩ := own_some o11 (by omega)
                have hc16 : 1 ≤ c16 := own_cap o11
                go_simp
                refine wpTill.ready (rs := [16]) (by kernel_rfl) (by simp) ?_
                intro i9 hi9
                simp only [List.mem_cons, List.not_mem_nil, or_false] at hi9
                subst hi9
                refine wpOp_of rfl (step_open (by rfl) ?_)
                go_simp
                refine ⟨by first | exact HSX.out _ hb11 | exact (HSX.out _ hb11).2, ?_⟩
                have hbox : w11.heap[w.heap.size + 1]? = _ := (hb11.block (w.heap.size + 1) ltX).trans hXU
                obtain ⟨⟨t0, t1, t2, t3⟩, tf⟩ := block4 hbox
                have tf2 := tf 2
                clear tf
                refine wpTill.ready (rs := [17]) (by kernel_rfl) (by simp) ?_
                intro i9 hi9
                simp only [List.mem_cons, List.not_mem_nil, or_false] at hi9
                subst hi9
                refine wpOp_of rfl (step_open (by rfl) ?_)
                go_simp
                refine ⟨by first | exact HSX.out _ hb11 | exact (HSX.out _ hb11).2, ?_⟩
                refine wpTill.ready (rs := [18]) (by kernel_rfl) (by simp) ?_
                intro i9 hi9
                simp only [List.mem_cons, List.not_mem_nil, or_false] at hi9
                subst hi9
                refine wpOp_of rfl (step_open (by rfl) ?_)
                go_simp
                refine wpTill.done (by kernel_rfl) ?_ _
                refine act_eq (KONT.out (.slice (some ⟨X.heap.size + 1, 0, none⟩) 0 0) (.slice (some ⟨X.heap.size + 1, 0, none⟩) 0 0) (.slice (some ⟨X.heap.size, 0, none⟩) 1 1) (.slice (some ⟨g16, 0, none⟩) 1 c16) (.slice (some ⟨g16, 0, none⟩) 1 c16) (.pointer (some ⟨w.heap.size + 1, 2, none⟩)) _ ⟨some ⟨g16, 0, none⟩, c16, rfl, ?_, heap_setCell_same w11 _ 2 _ _ _ hbox, (OnlyL.of_below hb11).trans (OnlyL.set _ _ _ (by simp))⟩) (by kernel_rfl)
                exact owns_other o11 ltX
            · obtain ⟨g, hgN, hgl, q0⟩ := HQ.out 0 (by omega)
              subst hgN
              have a1 : decide ((a : Int) < (k : Int)) = false := decide_eq_false (by omega)
              have a2 : ¬ (a : Int) < (k : Int) := by omega
              have hzk : nameAt nms k = nms[k] := nameAt_eq nms k hlt
              have hlq : qs.length = k := HM.out.len.2
              have HORD : Hid ((∀ j (h : j < qs.length), j < a → lessB (nameAt nms qs[j]) (nameAt nms k)) ∧ ∀ j (h : j < qs.length), a ≤ j → ¬ lessB (nameAt nms qs[j]) (nameAt nms k)) := by
                rw [hzk]
                refine ⟨fun j h hj => ?_, fun j h hj => absurd hj (by omega)⟩
                have := HALL.out j hj
                rwa [show qs.getD j 0 = qs[j] from by simp [List.getD, h]] at this
              have HZK : Hid (nameAt nms k = nms[k]) := hzk
              clear hzk hlq
              generalize hz : nms[k] = z at *
              go_wp2_with fail
              go_quiet (fail)
              go_wp2_with fail
              have hbX : ∀ q, Below U.heap.size U (wr.drewN q) := fun q => below_drewN hbx q
              have Y2 : ∀ q, (wr.drewN q).cell? ⟨w.heap.size + 1, 2, none⟩ = some (.slice (some ⟨g, 0, none⟩) k cN) := fun q => ((hbX q).cell (p := ⟨w.heap.size + 1, 2, none⟩) lt1).trans tc2
              have YN : ∀ q, (wr.drewN q).cell? ⟨bn, on + k, none⟩ = some (.string z) := fun q => N0
              clear x2 N0 HALL HQ q0 n0 tc0 tc1 tc2 tc3
              generalize hX : wr.drewN _ = X at *
              have hS0 : X.cell? ⟨w.heap.size + 1, 2, none⟩ = some (.slice (some ⟨g, 0, none⟩) k cN) ∧ X.cell? ⟨bn, on + k, none⟩ = some (.string z) := ⟨hX ▸ Y2 _, hX ▸ YN _⟩
              have hUX : Below U.heap.size U X := hX ▸ hbX _
              have oX := kept_belowT HM.out.names hUX
              have hWX : W1.heap.size ≤ X.heap.size := Nat.le_trans HM.out.only.size hUX.size
              have hkc : k ≤ cN := own_cap oX
              have ac : (a : Int) ≤ (cN : Int) := by omega
              have akI : (a : Int) ≤ (k : Int) := by omega
              have kcI : (k : Int) ≤ (cN : Int) := by omega
              refine wp_region_noPanic ?_
              refine wp_region_till (fun w' => w'.cell? ⟨w.heap.size + 1, 2, none⟩ = some (.slice (some ⟨g, 0, none⟩) k cN) ∧ w'.cell? ⟨bn, on + k, none⟩ = some (.string z)) 18 (by kernel_rfl) ?_
              refine wpTill.take (i := 1) (v := ?_) rfl rfl (by kernel_rfl) (by kernel_rfl) (by kernel_rfl) (by kernel_rfl) (fun _ _ _ h => h) (Or.inl ⟨by rfl, ?_⟩) hS0 ?_
              rotate_left
              · intro w9 hs9
                obtain ⟨s1, s2⟩ := hs9
                go_simp
                try rfl
              refine wpTill.take (i := 2) (v := ?_) rfl rfl (by kernel_rfl) (by kernel_rfl) (by kernel_rfl) (by kernel_rfl) (fun _ _ _ h => h) (Or.inl ⟨by rfl, ?_⟩) hS0 ?_
              rotate_left
              · intro w9 hs9
                obtain ⟨s1, s2⟩ := hs9
                go_simp
                try rfl
              refine wpTill.take (i := 3) (v := ?_) rfl rfl (by kernel_rfl) (by kernel_rfl) (by kernel_rfl) (by kernel_rfl) (fun _ _ _ h => h) (Or.inl ⟨by rfl, ?_⟩) hS0 ?_
              rotate_left
              · intro w9 hs9
                obtain ⟨s1, s2⟩ := hs9
                go_simp
                try rfl
              refine wpTill.take (i := 4) (v := ?_) rfl rfl (by kernel_rfl) (by kernel_rfl) (by kernel_rfl) (by kernel_rfl) (fun _ _ _ h => h) (Or.inl ⟨by rfl, ?_⟩) hS0 ?_
              rotate_left
              · intro w9 hs9
                obtain ⟨s1, s2⟩ := hs9
                go_simp
                try rfl
              refine wpTill.take (i := 6) (v := ?_) rfl rfl (by kernel_rfl) (by kernel_rfl) (by kernel_rfl) (by kernel_rfl) (fun _ _ _ h => h) (Or.inl ⟨by rfl, ?_⟩) hS0 ?_
              rotate_left
              · intro w9 hs9
                obtain ⟨s1, s2⟩ := hs9
                go_simp
                try rfl
              refine wpTill.take (i := 7) (v := ?_) rfl rfl (by kernel_rfl) (by kernel_rfl) (by kernel_rfl) (by kernel_rfl) (fun _ _ _ h => h) (Or.inl ⟨by rfl, ?_⟩) hS0 ?_
              rotate_left
              · intro w9 hs9
                obtain ⟨s1, s2⟩ := hs9
                go_simp
                try rfl
              refine wpTill.take (i := 8) (v := ?_) rfl rfl (by kernel_rfl) (by kernel_rfl) (by kernel_rfl) (by kernel_rfl) (fun _ _ _ h => h) (Or.inl ⟨by rfl, ?_⟩) hS0 ?_
              rotate_left
              · intro w9 hs9
                obtain ⟨s1, s2⟩ := hs9
                go_simp
                try rfl
              refine wpTill.take (i := 9) (v := ?_) rfl rfl (by kernel_rfl) (by kernel_rfl) (by kernel_rfl) (by kernel_rfl) (fun _ _ _ h => h) (Or.inl ⟨by rfl, ?_⟩) hS0 ?_
              rotate_left
              · intro w9 hs9
                obtain ⟨s1, s2⟩ := hs9
                go_simp
                try rfl
              refine wpTill.take (i := 12) (v := ?_) rfl rfl (by kernel_rfl) (by kernel_rfl) (by kernel_rfl) (by kernel_rfl) (fun _ _ _ h => h) (Or.inl ⟨by rfl, ?_⟩) hS0 ?_
              rotate_left
              · intro w9 hs9
                obtain ⟨s1, s2⟩ := hs9
                go_simp
                try rfl
              refine wpTill.take (i := 13) (v := ?_) rfl rfl (by kernel_rfl) (by kernel_rfl) (by kernel_rfl) (by kernel_rfl) (fun _ _ _ h => h) (Or.inl ⟨by rfl, ?_⟩) hS0 ?_
              rotate_left
              · intro w9 hs9
                obtain ⟨s1, s2⟩ := hs9
                go_simp
                try rfl
              refine wpTill.take (i := 14) (v := ?_) rfl rfl (by kernel_rfl) (by kernel_rfl) (by kernel_rfl) (by kernel_rfl) (fun _ _ _ h => h) (Or.inl ⟨by rfl, ?_⟩) hS0 ?_
              rotate_left
              · intro w9 hs9
                obtain ⟨s1, s2⟩ := hs9
                go_simp
                try rfl
              refine wpTill.take (i := 15) (v := ?_) rfl rfl (by kernel_rfl) (by kernel_rfl) (by kernel_rfl) (by kernel_rfl) (fun _ _ _ h => h) (Or.inl ⟨by rfl, ?_⟩) hS0 ?_
              rotate_left
              · intro w9 hs9
                obtain ⟨s1, s2⟩ := hs9
                go_simp
                try rfl
              have HSX : Hid (∀ Z : World, Below X.heap.size X Z → Z.cell? ⟨w.heap.size + 1, 2, none⟩ = some (.slice (some ⟨g, 0, none⟩) k cN) ∧ Z.cell? ⟨bn, on + k, none⟩ = some (.string z)) := fun Z hZ => ⟨(hZ.cell (p := ⟨w.heap.size + 1, 2, none⟩) (World.block_lt_of_cell? X _ hS0.1)).trans hS0.1, (hZ.cell (p := ⟨bn, on + k, none⟩) (World.block_lt_of_cell? X _ hS0.2)).trans hS0.2⟩
              have HN1 : Hid (∀ Z : World, Below X.heap.size X Z → ∀ j u, ((strV (qs.map (nameAt nms))).take a)[j]? = some u → Z.cell? ((⟨g, 0, none⟩ : Addr).add j) = some u) := fun Z hZ => own_take oX hZ a
              obtain ⟨D, hD, HN2⟩ : ∃ D : Addr, (if cN = a then some (⟨g, 0, none⟩ : Addr) else some ⟨g, a, none⟩) = some D ∧ Hid (∀ Z : World, Below X.heap.size X Z → ∀ j u, ((strV (qs.map (nameAt nms))).drop a)[j]? = some u → Z.cell? (D.add j) = some u) := by
                by_cases c : cN = a
                · refine ⟨_, if_pos c, fun Z hZ j u hu => ?_⟩
                  have := (List.getElem?_eq_some_iff.1 hu).1
                  have := oX.1
                  rw [List.length_drop] at *
                  omega
                · exact ⟨_, if_neg c, fun Z hZ => own_drop oX hZ a⟩
              have hl1 : ((strV (qs.map (nameAt nms))).take a).length = a * 1 := by have := oX.1; rw [List.length_take]; omega
              have hl2 : ((strV (qs.map (nameAt nms))).drop a).length = (k - a) * 1 := by have := oX.1; rw [List.length_drop]; omega
              have h11 : ∀ u ∈ (strV (qs.map (nameAt nms))).take a, u.oneCell' = true := fun u hu => strV_one _ u (List.mem_of_mem_take hu)
              have h12 : ∀ u ∈ (strV (qs.map (nameAt nms))).drop a, u.oneCell' = true := fun u hu => strV_one _ u (List.mem_of_mem_drop hu)
              go_simp
              refine till_kont 41 46 51 52 57 58 (fun v Y => ∃ (aa : Option Addr) (cc : Nat), v = .slice aa (k + 1) cc ∧ Y.ownsRow X.heap.size 9 1 (.slice aa (k + 1) cc) (k + 1) ((strV (qs.map (nameAt nms))).take a ++ [.string z] ++ (strV (qs.map (nameAt nms))).drop a) ∧ Y.heap[w.heap.size + 1]? = some (.cells #[.int .i64 5, .string ⟨#[]⟩, .slice aa (k + 1) cc, .slice aK k cK] 28 (0, 0)) ∧ OnlyL [w.heap.size + 1] X Y) ?_ ?_
              · intro m1 m2 m3 m4 m5 m6 Y hF
                obtain ⟨aa, cc, rfl, oY, bY, onY⟩ := hF
                obtain ⟨⟨_, _, _, y3⟩, _⟩ := block4 bY
                have onU : OnlyL [w.heap.size + 1] U Y := (OnlyL.of_below hUX).trans onY
                obtain ⟨gK, rfl⟩ : ∃ gK, aK = some (⟨gK, 0, none⟩ : Addr) := own_some HM.out.kids (by omega)
                have oK : Y.ownsRow W1.heap.size 28 4 (.slice (some ⟨gK, 0, none⟩) k cK) k (flatK (qs.map (kidAt ks)) ls) := owns_onlyL HM.out.kids onU (fun x hx => by simp only [List.mem_singleton] at hx; omega)
                have hkc2 : k ≤ cK := own_cap oK
                have acK : (a : Int) ≤ (cK : Int) := by omega
                have kcK : (k : Int) ≤ (cK : Int) := by omega
                have hkl : k < ks.length := by have := HNE.out; omega
                have kl0 : (k : Int) < (ks.length : Int) := by omega
                obtain ⟨bk, ok, rfl, hbk, hcl⟩ := HCC.out k hkl
                have hta := HCA.out k hkl
                obtain ⟨an2, ln2, cn2, ak2, lk2, ck2, ee⟩ := hta.shape
                have hbwY : Below w.heap.size w Y := (hbw.trans (hUX.mono (by omega))).trans (onY.below (fun x hx => by simp only [List.mem_singleton] at hx; omega) (by have := hUX.size; omega))
                have A0 : Y.cell? ⟨bk, ok + k * 4, none⟩ = some (.int .i64 (kidAt ks k).kind) := (hbwY.cell (p := ⟨bk, ok + k * 4, none⟩) hbk).trans (hcl 0 _ (by rw [ee]; rfl))
                have A1 : Y.cell? ⟨bk, ok + k * 4 + 1, none⟩ = some (.string (kidAt ks k).name) := (hbwY.cell (p := ⟨bk, ok + k * 4 + 1, none⟩) hbk).trans (hcl 1 _ (by rw [ee]; rfl))
                have A2 : Y.cell? ⟨bk, ok + k * 4 + 2, none⟩ = some (.slice an2 ln2 cn2) := (hbwY.cell (p := ⟨bk, ok + k * 4 + 2, none⟩) hbk).trans (hcl 2 _ (by rw [ee]; rfl))
                have A3 : Y.cell? ⟨bk, ok + k * 4 + 3, none⟩ = some (.slice ak2 lk2 ck2) := (hbwY.cell (p := ⟨bk, ok + k * 4 + 3, none⟩) hbk).trans (hcl 3 _ (by rw [ee]; rfl))
                have hbu : Ty.bulk n (kidAt ks k) ≤ 1048576 := by
                  have h1 := kid_bulk n ks k hkl
                  have h2 := HBK.out
                  rw [kidAt_eq ks k hkl]
                  unfold rowBulk at h2
                  omega
                have HCP : Hid (∀ wx : World, Below w.heap.size w wx → Calls Tryd.prog 18 #[.agg #[.int .i64 (kidAt ks k).kind, .string (kidAt ks k).name, .slice an2 ln2 cn2, .slice ak2 lk2 ck2]] wx fun e w' => ∃ (an3 : Option Addr) (cn3 : Nat) (ak3 : Option Addr) (ck3 : Nat), e = .returned (.agg #[.int .i64 (kidAt ks k).kind, .string (kidAt ks k).name, .slice an3 (kidAt ks k).names.length cn3, .slice ak3 (kidAt ks k).kids.length ck3]) ∧ (∃ l, cellsK (kidAt ks k) l = [.int .i64 (kidAt ks k).kind, .string (kidAt ks k).name, .slice an3 (kidAt ks k).names.length cn3, .slice ak3 (kidAt ks k).kids.length ck3] ∧ NewLay wx.heap.size w' n l (kidAt ks k)) ∧ Below wx.heap.size wx w') := fun wx hx => by
                  have := specCopy n (C k) (kidAt ks k) wx (hta.below hx) hbu
                  rw [ee] at this
                  refine this.mono ?_
                  rintro e w' ⟨l, rfl, hl, hb⟩
                  obtain ⟨an3, cn3, ak3, ck3, e3⟩ := lay_cellsN hl.1
                  exact ⟨an3, cn3, ak3, ck3, by rw [e3], ⟨l, e3, hl⟩, hb⟩
                have HYZ : Hid (W1.heap.size ≤ Y.heap.size ∧ w.heap.size ≤ Y.heap.size) := ⟨by have := onY.size; omega, hbwY.size⟩
                have hSY : Y.cell? ⟨w.heap.size + 1, 3, none⟩ = some (.slice (some ⟨gK, 0, none⟩) k cK) ∧ Y.cell? ⟨bk, ok + k * 4, none⟩ = some (.int .i64 (kidAt ks k).kind) ∧ Y.cell? ⟨bk, ok + k * 4 + 1, none⟩ = some (.string (kidAt ks k).name) ∧ Y.cell? ⟨bk, ok + k * 4 + 2, none⟩ = some (.slice an2 ln2 cn2) ∧ Y.cell? ⟨bk, ok + k * 4 + 3, none⟩ = some (.slice ak2 lk2 ck2) := ⟨y3, A0, A1, A2, A3⟩
                have HSY : Hid (∀ Z : World, Below Y.heap.size Y Z → Z.cell? ⟨w.heap.size + 1, 3, none⟩ = some (.slice (some ⟨gK, 0, none⟩) k cK) ∧ Z.cell? ⟨bk, ok + k * 4, none⟩ = some (.int .i64 (kidAt ks k).kind) ∧ Z.cell? ⟨bk, ok + k * 4 + 1, none⟩ = some (.string (kidAt ks k).name) ∧ Z.cell? ⟨bk, ok + k * 4 + 2, none⟩ = some (.slice an2 ln2 cn2) ∧ Z.cell? ⟨bk, ok + k * 4 + 3, none⟩ = some (.slice ak2 lk2 ck2)) := fun Z hZ => by
                  have hq : bk < Y.heap.size := World.block_lt_of_cell? Y _ A0
                  exact ⟨(hZ.cell (p := ⟨w.heap.size + 1, 3, none⟩) (World.block_lt_of_cell? Y _ y3)).trans y3, (hZ.cell (p := ⟨bk, ok + k * 4, none⟩) hq).trans A0, (hZ.cell (p := ⟨bk, ok + k * 4 + 1, none⟩) hq).trans A1, (hZ.cell (p := ⟨bk, ok + k * 4 + 2, none⟩) hq).trans A2, (hZ.cell (p := ⟨bk, ok + k * 4 + 3, none⟩) hq).trans A3⟩
                have hk40 : (0 : Int) ≤ (k : Int) := by omega
                have HK1 : Hid (∀ Z : World, Below Y.heap.size Y Z → ∀ j u, ((flatK (qs.map (kidAt ks)) ls).take (a * 4))[j]? = some u → Z.cell? ((⟨gK, 0, none⟩ : Addr).add j) = some u) := fun Z hZ => own_take oK hZ (a * 4)
                obtain ⟨D2, hD2, HK2⟩ : ∃ D2 : Addr, (if cK = a then some (⟨gK, 0, none⟩ : Addr) else some ⟨gK, a * 4, none⟩) = some D2 ∧ Hid (∀ Z : World, Below Y.heap.size Y Z → ∀ j u, ((flatK (qs.map (kidAt ks)) ls).drop (a * 4))[j]? = some u → Z.cell? (D2.add j) = some u) := by
                  by_cases c : cK = a
                  · refine ⟨_, if_pos c, fun Z hZ j u hu => ?_⟩
                    have := (List.getElem?_eq_some_iff.1 hu).1
                    have := oK.1
                    rw [List.length_drop] at *
                    omega
                  · exact ⟨_, if_neg c, fun Z hZ => own_drop oK hZ (a * 4)⟩
                have kl1 : ((flatK (qs.map (kidAt ks)) ls).take (a * 4)).length = a * 4 := by have := oK.1; rw [List.length_take]; omega
                have kl2 : ((flatK (qs.map (kidAt ks)) ls).drop (a * 4)).length = (k - a) * 4 := by have := oK.1; rw [List.length_drop]; omega
                have hone : ∀ u ∈ flatK (qs.map (kidAt ks)) ls, u.oneCell' = true := flatK_one _ _ fun l hl => by
                  obtain ⟨j, hj, rfl⟩ := List.getElem_of_mem hl
                  exact lay_slices (HM.out.lay j hj (by have := HM.out.len; omega)).1
                have k11 : ∀ u ∈ (flatK (qs.map (kidAt ks)) ls).take (a * 4), u.oneCell' = true := fun u hu => hone u (List.mem_of_mem_take hu)
                have k12 : ∀ u ∈ (flatK (qs.map (kidAt ks)) ls).drop (a * 4), u.oneCell' = true := fun u hu => hone u (List.mem_of_mem_drop hu)
                clear hcl ee A0 A1 A2 A3 y3 hone hta hbu onU
                refine NoPanic.normal ?_
                go_simp
                go_wp2_with fail
                refine wp_region_noPanic ?_
                refine wp_region_till (fun w' => w'.cell? ⟨w.heap.size + 1, 3, none⟩ = some (.slice (some ⟨gK, 0, none⟩) k cK) ∧ w'.cell? ⟨bk, ok + k * 4, none⟩ = some (.int .i64 (kidAt ks k).kind) ∧ w'.cell? ⟨bk, ok + k * 4 + 1, none⟩ = some (.string (kidAt ks k).name) ∧ w'.cell? ⟨bk, ok + k * 4 + 2, none⟩ = some (.slice an2 ln2 cn2) ∧ w'.cell? ⟨bk, ok + k * 4 + 3, none⟩ = some (.slice ak2 lk2 ck2)) 19 (by kernel_rfl) ?_
                refine wpTill.take (i := 1) (v := ?_) rfl rfl (by kernel_rfl) (by kernel_rfl) (by kernel_rfl) (by kernel_rfl) (fun _ _ _ h => h) (Or.inl ⟨by rfl, ?_⟩) hSY ?_
                rotate_left
                · intro w9 hs9
                  obtain ⟨s0, s1, s2, s3, s4⟩ := hs9
                  go_simp
                  try rfl
                refine wpTill.take (i := 2) (v := ?_) rfl rfl (by kernel_rfl) (by kernel_rfl) (by kernel_rfl) (by kernel_rfl) (fun _ _ _ h => h) (Or.inl ⟨by rfl, ?_⟩) hSY ?_
                rotate_left
                · intro w9 hs9
                  obtain ⟨s0, s1, s2, s3, s4⟩ := hs9
                  go_simp
                  try rfl
                refine wpTill.take (i := 3) (v := ?_) rfl rfl (by kernel_rfl) (by kernel_rfl) (by kernel_rfl) (by kernel_rfl) (fun _ _ _ h => h) (Or.inl ⟨by rfl, ?_⟩) hSY ?_
                rotate_left
                · intro w9 hs9
                  obtain ⟨s0, s1, s2, s3, s4⟩ := hs9
                  go_simp
                  try rfl
                refine wpTill.take (i := 4) (v := ?_) rfl rfl (by kernel_rfl) (by kernel_rfl) (by kernel_rfl) (by kernel_rfl) (fun _ _ _ h => h) (Or.inl ⟨by rfl, ?_⟩) hSY ?_
                rotate_left
                · intro w9 hs9
                  obtain ⟨s0, s1, s2, s3, s4⟩ := hs9
                  go_simp
                  try rfl
                refine wpTill.take (i := 6) (v := ?_) rfl rfl (by kernel_rfl) (by kernel_rfl) (by kernel_rfl) (by kernel_rfl) (fun _ _ _ h => h) (Or.inl ⟨by rfl, ?_⟩) hSY ?_
                rotate_left
                · intro w9 hs9
                  obtain ⟨s0, s1, s2, s3, s4⟩ := hs9
                  go_simp
                  try rfl
                refine wpTill.take (i := 7) (v := ?_) rfl rfl (by kernel_rfl) (by kernel_rfl) (by kernel_rfl) (by kernel_rfl) (fun _ _ _ h => h) (Or.inl ⟨by rfl, ?_⟩) hSY ?_
                rotate_left
                · intro w9 hs9
                  obtain ⟨s0, s1, s2, s3, s4⟩ := hs9
                  go_simp
                  try rfl
                refine wpTill.take (i := 8) (v := ?_) rfl rfl (by kernel_rfl) (by kernel_rfl) (by kernel_rfl) (by kernel_rfl) (fun _ _ _ h => h) (Or.inl ⟨by rfl, ?_⟩) hSY ?_
                rotate_left
                · intro w9 hs9
                  obtain ⟨s0, s1, s2, s3, s4⟩ := hs9
                  go_simp
                  try rfl
                refine wpTill.take (i := 9) (v := ?_) rfl rfl (by kernel_rfl) (by kernel_rfl) (by kernel_rfl) (by kernel_rfl) (fun _ _ _ h => h) (Or.inl ⟨by rfl, ?_⟩) hSY ?_
                rotate_left
                · intro w9 hs9
                  obtain ⟨s0, s1, s2, s3, s4⟩ := hs9
                  go_simp
                  try rfl
                refine wpTill.take (i := 13) (v := ?_) rfl rfl (by kernel_rfl) (by kernel_rfl) (by kernel_rfl) (by kernel_rfl) (fun _ _ _ h => h) (Or.inl ⟨by rfl, ?_⟩) hSY ?_
                rotate_left
                · intro w9 hs9
                  obtain ⟨s0, s1, s2, s3, s4⟩ := hs9
                  go_simp
                  try rfl
                refine wpTill.take (i := 14) (v := ?_) rfl rfl (by kernel_rfl) (by kernel_rfl) (by kernel_rfl) (by kernel_rfl) (fun _ _ _ h => h) (Or.inl ⟨by rfl, ?_⟩) hSY ?_
                rotate_left
                · intro w9 hs9
                  obtain ⟨s0, s1, s2, s3, s4⟩ := hs9
                  go_simp
                  try rfl
                refine wpTill.take (i := 15) (v := ?_) rfl rfl (by kernel_rfl) (by kernel_rfl) (by kernel_rfl) (by kernel_rfl) (fun _ _ _ h => h) (Or.inl ⟨by rfl, ?_⟩) hSY ?_
                rotate_left
                · intro w9 hs9
                  obtain ⟨s0, s1, s2, s3, s4⟩ := hs9
                  go_simp
                  try rfl
                refine wpTill.take (i := 16) (v := ?_) rfl rfl (by kernel_rfl) (by kernel_rfl) (by kernel_rfl) (by kernel_rfl) (fun _ _ _ h => h) (Or.inl ⟨by rfl, ?_⟩) hSY ?_
                rotate_left
                · intro w9 hs9
                  obtain ⟨s0, s1, s2, s3, s4⟩ := hs9
                  go_simp
                  try rfl
                go_simp
                refine wpTill.ready (rs := [0]) (by kernel_rfl) (by simp) ?_
                intro i9 hi9
                simp only [List.mem_cons, List.not_mem_nil, or_false] at hi9
                subst hi9
                refine wpOp_of rfl (step_open (by rfl) ?_)
                go_simp
                have hb0 : Below Y.heap.size Y ((Y.alloc (.cells #[] 28)).drew) := ((Below.refl _ _).alloc (Nat.le_refl _) _).drew
                have e0 : ((Y.alloc (.cells #[] 28)).drew).heap[Y.heap.size]? = some (.cells #[] 28 (0, 0)) := (MapKept.heap_alloc Y _).1
                refine ⟨HSY.out _ ((Below.refl _ _).alloc (Nat.le_refl _) _), ?_⟩
                generalize ((Y.alloc (.cells #[] 28)).drew) = Y0 at *
                refine wpTill.ready (rs := [5]) (by kernel_rfl) (by simp) ?_
                intro i9 hi9
                simp only [List.mem_cons, List.not_mem_nil, or_false] at hi9
                subst hi9
                refine wpOp_of rfl (step_append_own (by rfl) (.tmp 59) (.tmp 63) 26 rfl Y.heap.size 28 i0 _ 4 72 Tryd.underlying26 hi0 hz0 hz1 hz2 rfl (by decide) (.slice (some ⟨Y.heap.size, 0, none⟩) 0 0) 0 [] (by rfl) (own_empty4 e0 (Nat.le_refl _)) ⟨gK, 0, none⟩ a cK _ (by rfl) kl1 (HK1.out _ hb0) k11 (by unfold maxLen; omega) (by omega) hb0.size ?_)
                intro v5 w5 o5' g5 _
                have o5 : w5.ownsRow Y.heap.size 28 4 v5 a ((flatK (qs.map (kidAt ks)) ls).take (a * 4)) := by simpa using o5'
                have hb5 : Below Y.heap.size Y w5 := hb0.grown g5 hb0.size (fun j hj => by simp [Value.ownBlock] at hj; omega)
                clear o5' g5 e0 hb0
                refine ⟨fun _ => HSY.out _ hb5, ?_⟩
                go_simp
                refine wpTill.ready (rs := [10]) (by kernel_rfl) (by simp) ?_
                intro i9 hi9
                simp only [List.mem_cons, List.not_mem_nil, or_false] at hi9
                subst hi9
                have hbw5 : Below w.heap.size w w5 := hbwY.trans (hb5.mono HYZ.out.2)
                refine wpOp_of rfl (step_open (by rfl) ?_)
                go_simp
                go_at_call 18
                refine (HCP.out _ hbw5).mono ?_
                rintro e w6 ⟨an3, cn3, ak3, ck3, rfl, ⟨l, ecl, hnl⟩, hb6'⟩
                have o6 := kept_belowT o5 hb6'
                have hb6 := hb5.trans (hb6'.mono hb5.size)
                have hnl6 : NewLay w5.heap.size w6 n l (kidAt ks k) := hnl
                have hfar : ∀ b, v5.ownBlock = some b → b < w5.heap.size := fun b e => (o5.lt b e).2
                have hY5 := hb5.size
                clear hnl hb6' o5 hbw5 hb5
                refine ⟨HSY.out _ hb6, ?_⟩
                go_simp
                refine wpTill.ready (rs := [11]) (by kernel_rfl) (by simp) ?_
                intro i9 hi9
                simp only [List.mem_cons, List.not_mem_nil, or_false] at hi9
                subst hi9
                refine wpOp_of rfl (step_open (by rfl) ?_)
                go_simp
                have hb7 : Below Y.heap.size Y (w6.alloc (.cells #[.int .i64 (kidAt ks k).kind, .string (kidAt ks k).name, .slice an3 (kidAt ks k).names.length cn3, .slice ak3 (kidAt ks k).kids.length ck3] 28)) := hb6.alloc hb6.size _
                have o7 := o6.alloc (.cells #[.int .i64 (kidAt ks k).kind, .string (kidAt ks k).name, .slice an3 (kidAt ks k).names.length cn3, .slice ak3 (kidAt ks k).kids.length ck3] 28)
                have n7 := World.news_of_block (cs := #[.int .i64 (kidAt ks k).kind, .string (kidAt ks k).name, .slice an3 (kidAt ks k).names.length cn3, .slice ak3 (kidAt ks k).kids.length ck3]) (t := 28) (fr := (0, 0)) (heap_alloc_new w6 _)
                have hnl7 := hnl6.below ((Below.refl _ w6).alloc (Nat.le_refl _) (.cells #[.int .i64 (kidAt ks k).kind, .string (kidAt ks k).name, .slice an3 (kidAt ks k).names.length cn3, .slice ak3 (kidAt ks k).kids.length ck3] 28))
                refine ⟨HSY.out _ hb7, ?_⟩
                clear o6 hb6 hnl6
                generalize (w6.alloc (.cells #[.int .i64 (kidAt ks k).kind, .string (kidAt ks k).name, .slice an3 (kidAt ks k).names.length cn3, .slice ak3 (kidAt ks k).kids.length ck3] 28)) = Z at *
                refine wpTill.ready (rs := [12]) (by kernel_rfl) (by simp) ?_
                intro i9 hi9
                simp only [List.mem_cons, List.not_mem_nil, or_false] at hi9
                subst hi9
                refine wpOp_of rfl (step_append_lies _ (by rfl) (.tmp 64) (.tmp 70) 26 (by rfl) Y.heap.size 28 i0 _ 4 72 Tryd.underlying26 hi0 hz0 hz1 hz2 rfl (by decide) v5 a _ (by rfl) o7 ⟨w6.heap.size, 0, none⟩ 1 1 [.int .i64 (kidAt ks k).kind, .string (kidAt ks k).name, .slice an3 (kidAt ks k).names.length cn3, .slice ak3 (kidAt ks k).kids.length ck3] (by rfl) rfl n7 (by simp [Value.oneCell']) (by omega) (by unfold maxLen; omega) (by omega) hb7.size Z.heap.size rfl ?_)
                intro gg gc w11 o11 g11 hat hlt11
                have hb11 : Below Y.heap.size Y w11 := hb7.grown g11 hb7.size (fun j hj => (o7.lt j hj).1)
                have hne7 : ∀ b ∈ Lay.blocks n l, b < Z.heap.size ∧ v5.ownBlock ≠ some b := fun b hb => ⟨hnl7.1.lt hb, fun e => by have := hfar b e; have := hnl7.2.2 b hb; omega⟩
                have hnl11 : LayAt w11 n l (kidAt ks k) := hnl7.1.same fun b hb => g11.block b (hne7 b hb).1 (fun e => (hne7 b hb).2 e.symm)
                have hgg : ∀ b ∈ Lay.blocks n l, gg ≠ b := fun b hb e => by
                  rcases hat with h | h
                  · exact (hne7 b hb).2 (e ▸ h)
                  · have := (hne7 b hb).1; omega
                refine ⟨fun _ => HSY.out _ hb11, ?_⟩
                clear g11 n7 o7 hb7 hat
                go_simp
                refine wpTill.ready (rs := [17]) (by kernel_rfl) (by simp) ?_
                intro i9 hi9
                simp only [List.mem_cons, List.not_mem_nil, or_false] at hi9
                subst hi9
                refine wpOp_of rfl (step_append_own (by rfl) (.tmp 71) (.tmp 75) 26 rfl Y.heap.size 28 i0 _ 4 72 Tryd.underlying26 hi0 hz0 hz1 hz2 rfl (by decide) (.slice (some ⟨gg, 0, none⟩) (a + 1) gc) (a + 1) _ (by rfl) o11 D2 (k - a) (cK - a) _ (by rw [← hD2]; rfl) kl2 (HK2.out _ hb11) k12 (by unfold maxLen; omega) (by omega) hb11.size ?_)
                intro v16 w16 o16' g16 _
                have hb16 : Below Y.heap.size Y w16 := hb11.grown g16 hb11.size (fun j hj => (o11.lt j hj).1)
                have hnl16 : LayAt w16 n l (kidAt ks k) := hnl11.same fun b hb => g16.block b (hnl11.lt hb) (fun e => hgg b hb (Option.some.inj e).symm)
                have hlb16 : ∀ b ∈ Lay.blocks n l, Y.heap.size ≤ b := fun b hb => Nat.le_trans hY5 (hnl7.2.2 b hb)
                refine ⟨fun _ => HSY.out _ hb16, ?_⟩
                clear g16
                rw [show a + 1 + (k - a) = k + 1 from by omega] at o16'
                obtain ⟨a16, c16, e16⟩ := slice_ownM o16'
                subst e16
                have hTY : w.heap.size + 1 < Y.heap.size := (Array.getElem?_eq_some_iff.1 bY).1
                have hbox : w16.heap[w.heap.size + 1]? = _ := (hb16.block (w.heap.size + 1) hTY).trans bY
                obtain ⟨⟨t0, t1, t2, t3⟩, tf⟩ := block4 hbox
                have tf2 := tf 3
                clear tf
                go_simp
                refine wpTill.ready (rs := [18]) (by kernel_rfl) (by simp) ?_
                intro i9 hi9
                simp only [List.mem_cons, List.not_mem_nil, or_false] at hi9
                subst hi9
                refine wpOp_of rfl (step_open (by rfl) ?_)
                go_simp
                refine ⟨by first | exact HSY.out _ hb16 | exact (HSY.out _ hb16).2, ?_⟩
                refine wpTill.ready (rs := [19]) (by kernel_rfl) (by simp) ?_
                intro i9 hi9
                simp only [List.mem_cons, List.not_mem_nil, or_false] at hi9
                subst hi9
                refine wpOp_of rfl (step_open (by rfl) ?_)
                go_simp
                refine wpTill.done (by kernel_rfl) ?_ _
                refine NoPanic.normal ?_
                have R1 : RecM W1 (w16.setCell ⟨w.heap.size + 1, 3, none⟩ (.slice a16 (k + 1) c16)) (w.heap.size + 1) n nms ks (k + 1) (qs.take a ++ [k] ++ qs.drop a) (.slice aa (k + 1) cc) (.slice a16 (k + 1) c16) (ls.take a ++ [l] ++ ls.drop a) := by
                  refine HM.out.ins (by omega) (heap_setCell_same w16 _ 3 _ _ _ hbox) ?_ ?_ (hnl16.same fun b hb => Below.heap_setCell _ _ _ _ (fun e => by have := hlb16 b hb; simp only at e; omega)) (fun b hb => Nat.le_trans HYZ.out.1 (hlb16 b hb)) (((OnlyL.of_below hUX).trans onY).trans ((OnlyL.of_below hb16).trans (OnlyL.set _ _ _ (by simp)))) HORD.out.1 HORD.out.2
                  · rw [HZK.out]; exact owns_other (own_base (kept_belowT oY hb16) hWX) HM.out.lt
                  · rw [ecl]; exact owns_other (own_base o16' HYZ.out.1) HM.out.lt
                have HR1 : Hid (type_of% R1) := R1
                clear R1 t0 t1 t2 t3 tf2 o16' o11 hb16 hb11 hbox hSY HSY HSX hS0
                go_wp2_with fail
                go_roundw
                case rel => exact ⟨k + 1, _, _, _, _, by omega, by go_num, HR1.out⟩
                case measure => simp [intOf]; omega
              intro KONT
              refine wpTill.ready (rs := [0, 10]) (by kernel_rfl) (by simp) ?_
              intro i9 hi9
              simp only [List.mem_cons, List.not_mem_nil, or_false] at hi9
              rcases hi9 with rfl | rfl
              · refine wpOp_of rfl (step_open (by rfl) ?_)
                go_simp
                have hb0 : Below X.heap.size X ((X.alloc (.cells #[] 9)).drew) := ((Below.refl _ _).alloc (Nat.le_refl _) _).drew
                have e0 : ((X.alloc (.cells #[] 9)).drew).heap[X.heap.size]? = some (.cells #[] 9 (0, 0)) := (MapKept.heap_alloc X _).1
                refine ⟨HSX.out _ ((Below.refl _ _).alloc (Nat.le_refl _) _), ?_⟩
                generalize ((X.alloc (.cells #[] 9)).drew) = X0 at *
                refine wpTill.ready (rs := [5, 10]) (by kernel_rfl) (by simp) ?_
                intro i9 hi9
                simp only [List.mem_cons, List.not_mem_nil, or_false] at hi9
                rcases hi9 with rfl | rfl
                · refine wpOp_of rfl (step_append_own (by rfl) (.tmp 41) (.tmp 45) 22 rfl X.heap.size 9 j0 (.string ⟨#[]⟩) 1 16 Tryd.underlying22 hj0 hy0 hy1 hy2 rfl (by decide) (.slice (some ⟨X.heap.size, 0, none⟩) 0 0) 0 [] (by rfl) (own_empty e0 (Nat.le_refl _)) ⟨g, 0, none⟩ a cN _ (by rfl) hl1 (HN1.out _ hb0) h11 (by unfold maxLen; omega) (by omega) hb0.size ?_)
                  intro v5 w5 o5' g5 _
                  have o5 : w5.ownsRow X.heap.size 9 1 v5 a ((strV (qs.map (nameAt nms))).take a) := by simpa using o5'
                  have hb5 : Below X.heap.size X w5 := hb0.grown g5 hb0.size (fun j hj => by simp [Value.ownBlock] at hj; omega)
                  clear o5'
                  refine ⟨fun _ => HSX.out _ hb5, ?_⟩
                  go_simp
                  refine wpTill.ready (rs := [10]) (by kernel_rfl) (by simp) ?_
                  intro i9 hi9
                  simp only [List.mem_cons, List.not_mem_nil, or_false] at hi9
                  subst hi9
                  refine wpOp_of rfl (step_open (by rfl) ?_)
                  go_simp
                  have hbZ : Below X.heap.size X (w5.alloc (.cells #[.string z] 9)) := hb5.alloc hb5.size _
                  have c10 : (w5.alloc (.cells #[.string z] 9)).cell? ⟨w5.heap.size, 0, none⟩ = some (.string z) := by rw [cellNew _ rfl]; rfl
                  have oZ := o5.alloc (.cells #[.string z] 9)
                  refine ⟨HSX.out _ hbZ, ?_⟩
                  generalize (w5.alloc (.cells #[.string z] 9)) = Z at *
                  refine wpTill.ready (rs := [11]) (by kernel_rfl) (by simp) ?_
                  intro i9 hi9
                  simp only [List.mem_cons, List.not_mem_nil, or_false] at hi9
                  subst hi9
                  refine wpOp_of rfl (step_append_own (by rfl) (.tmp 46) (.tmp 51) 22 rfl X.heap.size 9 j0 (.string ⟨#[]⟩) 1 16 Tryd.underlying22 hj0 hy0 hy1 hy2 rfl (by decide) v5 a _ (by rfl) oZ ⟨w5.heap.size, 0, none⟩ 1 1 [.string z] (by rfl) rfl (cell_oneR c10) (fun u hu => by simp only [List.mem_singleton] at hu; subst hu; rfl) (by unfold maxLen; omega) (by omega) hbZ.size ?_)
                  intro v11 w11 o11 g11 _
                  have hb11 : Below X.heap.size X w11 := hbZ.grown g11 hbZ.size (fun j hj => (oZ.lt j hj).1)
                  refine ⟨fun _ => HSX.out _ hb11, ?_⟩
                  clear g11
                  go_simp
                  refine wpTill.ready (rs := [16]) (by kernel_rfl) (by simp) ?_
                  intro i9 hi9
                  simp only [List.mem_cons, List.not_mem_nil, or_false] at hi9
                  subst hi9
                  refine wpOp_of rfl (step_append_own (by rfl) (.tmp 52) (.tmp 56) 22 rfl X.heap.size 9 j0 (.string ⟨#[]⟩) 1 16 Tryd.underlying22 hj0 hy0 hy1 hy2 rfl (by decide) v11 (a + 1) _ (by rfl) o11 D (k - a) (cN - a) _ (by rw [← hD]; rfl) hl2 (HN2.out _ hb11) h12 (by unfold maxLen; omega) (by omega) hb11.size ?_)
                  intro v16 w16 o16' g16 _
                  have hb16 : Below X.heap.size X w16 := hb11.grown g16 hb11.size (fun j hj => (o11.lt j hj).1)
                  refine ⟨fun _ => HSX.out _ hb16, ?_⟩
                  clear g16
                  rw [show a + 1 + (k - a) = k + 1 from by omega] at o16'
                  obtain ⟨a16, c16, e16⟩ := slice_ownM o16'
                  subst e16
                  have hbox : w16.heap[w.heap.size + 1]? = _ := (hb16.block (w.heap.size + 1) (Nat.lt_of_lt_of_le lt1 hUX.size)).trans ((hUX.block _ lt1).trans HM.out.box)
                  obtain ⟨⟨t0, t1, t2, t3⟩, tf⟩ := block4 hbox
                  have tf2 := tf 2
                  clear tf
                  go_simp
                  refine wpTill.ready (rs := [17]) (by kernel_rfl) (by simp) ?_
                  intro i9 hi9
                  simp only [List.mem_cons, List.not_mem_nil, or_false] at hi9
                  subst hi9
                  refine wpOp_of rfl (step_open (by rfl) ?_)
                  go_simp
                  refine ⟨by first | exact HSX.out _ hb16 | exact (HSX.out _ hb16).2, ?_⟩
                  refine wpTill.ready (rs := [18]) (by kernel_rfl) (by simp) ?_
                  intro i9 hi9
                  simp only [List.mem_cons, List.not_mem_nil, or_false] at hi9
                  subst hi9
                  refine wpOp_of rfl (step_open (by rfl) ?_)
                  go_simp
                  refine wpTill.done (by kernel_rfl) ?_ _
                  refine act_eq (KONT.out (.slice (some ⟨X.heap.size, 0, none⟩) 0 0) v5 (.slice (some ⟨w5.heap.size, 0, none⟩) 1 1) v11 (.slice a16 (k + 1) c16) (.pointer (some ⟨w.heap.size + 1, 2, none⟩)) _ ⟨a16, c16, rfl, ?_, heap_setCell_same w16 _ 2 _ _ _ hbox, (OnlyL.of_below hb16).trans (OnlyL.set _ _ _ (by simp))⟩) (by kernel_rfl)
                  exact owns_other o16' (Nat.lt_of_lt_of_le lt1 hUX.size)
                · refine wpOp_of rfl (step_open (by rfl) ?_)
                  go_simp
                  have hbZ : Below X.heap.size X (X0.alloc (.cells #[.string z] 9)) := hb0.alloc hb0.size _
                  have c10 : (X0.alloc (.cells #[.string z] 9)).cell? ⟨X0.heap.size, 0, none⟩ = some (.string z) := by rw [cellNew _ rfl]; rfl
                  have e1 : (X0.alloc (.cells #[.string z] 9)).heap[X.heap.size]? = some (.cells #[] 9 (0, 0)) := ((MapKept.heap_alloc X0 _).2 _ (Array.getElem?_eq_some_iff.1 e0).1).trans e0
                  have hz1 : X0.heap.size < (X0.alloc (.cells #[.string z] 9)).heap.size := by simp
                  have hne : X0.heap.size ≠ X.heap.size := fun e => by have := (Array.getElem?_eq_some_iff.1 e0).1; omega
                  refine ⟨HSX.out _ hbZ, ?_⟩
                  generalize (X0.alloc (.cells #[.string z] 9)) = Z at *
                  refine wpTill.ready (rs := [5]) (by kernel_rfl) (by simp) ?_
                  intro i9 hi9
                  simp only [List.mem_cons, List.not_mem_nil, or_false] at hi9
                  subst hi9
                  refine wpOp_of rfl (step_append_own (by rfl) (.tmp 41) (.tmp 45) 22 rfl X.heap.size 9 j0 (.string ⟨#[]⟩) 1 16 Tryd.underlying22 hj0 hy0 hy1 hy2 rfl (by decide) (.slice (some ⟨X.heap.size, 0, none⟩) 0 0) 0 [] (by rfl) (own_empty e1 (Nat.le_refl _)) ⟨g, 0, none⟩ a cN _ (by rfl) hl1 (HN1.out _ hbZ) h11 (by unfold maxLen; omega) (by omega) hbZ.size ?_)
                  intro v5 w5 o5' g5 _
                  have o5 : w5.ownsRow X.heap.size 9 1 v5 a ((strV (qs.map (nameAt nms))).take a) := by simpa using o5'
                  have hb5 : Below X.heap.size X w5 := hbZ.grown g5 hbZ.size (fun j hj => by simp [Value.ownBlock] at hj; omega)
                  clear o5'
                  refine ⟨fun _ => HSX.out _ hb5, ?_⟩
                  go_simp
                  have c5 := (World.cell?_of_block (a := ⟨X0.heap.size, 0, none⟩) (g5.block X0.heap.size hz1 (by simp only [Value.ownBlock]; intro e; exact hne (Option.some.inj e)))).trans c10
                  refine wpTill.ready (rs := [11]) (by kernel_rfl) (by simp) ?_
                  intro i9 hi9
                  simp only [List.mem_cons, List.not_mem_nil, or_false] at hi9
                  subst hi9
                  refine wpOp_of rfl (step_append_own (by rfl) (.tmp 46) (.tmp 51) 22 rfl X.heap.size 9 j0 (.string ⟨#[]⟩) 1 16 Tryd.underlying22 hj0 hy0 hy1 hy2 rfl (by decide) v5 a _ (by rfl) o5 ⟨X0.heap.size, 0, none⟩ 1 1 [.string z] (by rfl) rfl (cell_oneR c5) (fun u hu => by simp only [List.mem_singleton] at hu; subst hu; rfl) (by unfold maxLen; omega) (by omega) hb5.size ?_)
                  intro v11 w11 o11 g11 _
                  have hb11 : Below X.heap.size X w11 := hb5.grown g11 hb5.size (fun j hj => (o5.lt j hj).1)
                  refine ⟨fun _ => HSX.out _ hb11, ?_⟩
                  clear g11
                  go_simp
                  refine wpTill.ready (rs := [16]) (by kernel_rfl) (by simp) ?_
                  intro i9 hi9
                  simp only [List.mem_cons, List.not_mem_nil, or_false] at hi9
                  subst hi9
                  refine wpOp_of rfl (step_append_own (by rfl) (.tmp 52) (.tmp 56) 22 rfl X.heap.size 9 j0 (.string ⟨#[]⟩) 1 16 Tryd.underlying22 hj0 hy0 hy1 hy2 rfl (by decide) v11 (a + 1) _ (by rfl) o11 D (k - a) (cN - a) _ (by rw [← hD]; rfl) hl2 (HN2.out _ hb11) h12 (by unfold maxLen; omega) (by omega) hb11.size ?_)
                  intro v16 w16 o16' g16 _
                  have hb16 : Below X.heap.size X w16 := hb11.grown g16 hb11.size (fun j hj => (o11.lt j hj).1)
                  refine ⟨fun _ => HSX.out _ hb16, ?_⟩
                  clear g16
                  rw [show a + 1 + (k - a) = k + 1 from by omega] at o16'
                  obtain ⟨a16, c16, e16⟩ := slice_ownM o16'
                  subst e16
                  have hbox : w16.heap[w.heap.size + 1]? = _ := (hb16.block (w.heap.size + 1) (Nat.lt_of_lt_of_le lt1 hUX.size)).trans ((hUX.block _ lt1).trans HM.out.box)
                  obtain ⟨⟨t0, t1, t2, t3⟩, tf⟩ := block4 hbox
                  have tf2 := tf 2
                  clear tf
                  go_simp
                  refine wpTill.ready (rs := [17]) (by kernel_rfl) (by simp) ?_
                  intro i9 hi9
                  simp only [List.mem_cons, List.not_mem_nil, or_false] at hi9
                  subst hi9
                  refine wpOp_of rfl (step_open (by rfl) ?_)
                  go_simp
                  refine ⟨by first | exact HSX.out _ hb16 | exact (HSX.out _ hb16).2, ?_⟩
                  refine wpTill.ready (rs := [18]) (by kernel_rfl) (by simp) ?_
                  intro i9 hi9
                  simp only [List.mem_cons, List.not_mem_nil, or_false] at hi9
                  subst hi9
                  refine wpOp_of rfl (step_open (by rfl) ?_)
                  go_simp
                  refine wpTill.done (by kernel_rfl) ?_ _
                  refine act_eq (KONT.out (.slice (some ⟨X.heap.size, 0, none⟩) 0 0) v5 (.slice (some ⟨X0.heap.size, 0, none⟩) 1 1) v11 (.slice a16 (k + 1) c16) (.pointer (some ⟨w.heap.size + 1, 2, none⟩)) _ ⟨a16, c16, rfl, ?_, heap_setCell_same w16 _ 2 _ _ _ hbox, (OnlyL.of_below hb16).trans (OnlyL.set _ _ _ (by simp))⟩) (by kernel_rfl)
                  exact owns_other o16' (Nat.lt_of_lt_of_le lt1 hUX.size)
              · refine wpOp_of rfl (step_open (by rfl) ?_)
                go_simp
                refine ⟨HSX.out _ ((Below.refl _ _).alloc (Nat.le_refl _) _), ?_⟩
                refine wpTill.ready (rs := [0]) (by kernel_rfl) (by simp) ?_
                intro i9 hi9
                simp only [List.mem_cons, List.not_mem_nil, or_false] at hi9
                subst hi9
                refine wpOp_of rfl (step_open (by rfl) ?_)
                go_simp
                have hbZ : Below X.heap.size X (((X.alloc (.cells #[.string z] 9)).alloc (.cells #[] 9)).drew) := (((Below.refl _ _).alloc (Nat.le_refl _) _).alloc (by simp) _).drew
                have e1 : (((X.alloc (.cells #[.string z] 9)).alloc (.cells #[] 9)).drew).heap[X.heap.size + 1]? = some (.cells #[] 9 (0, 0)) := heap_second X _ _
                have c10 : (((X.alloc (.cells #[.string z] 9)).alloc (.cells #[] 9)).drew).cell? ⟨X.heap.size, 0, none⟩ = some (.string z) := by
                  show ((X.alloc (.cells #[.string z] 9)).alloc (.cells #[] 9)).cell? ⟨X.heap.size, 0, none⟩ = _
                  simp only [World.cell?, heap_first X _ _]; rfl
                have hz1 : X.heap.size < (((X.alloc (.cells #[.string z] 9)).alloc (.cells #[] 9)).drew).heap.size := World.block_lt_of_cell? _ ⟨X.heap.size, 0, none⟩ c10
                refine ⟨HSX.out _ (((Below.refl _ _).alloc (Nat.le_refl _) _).alloc (by simp) _), ?_⟩
                generalize (((X.alloc (.cells #[.string z] 9)).alloc (.cells #[] 9)).drew) = Z at *
                refine wpTill.ready (rs := [5]) (by kernel_rfl) (by simp) ?_
                intro i9 hi9
                simp only [List.mem_cons, List.not_mem_nil, or_false] at hi9
                subst hi9
                refine wpOp_of rfl (step_append_own (by rfl) (.tmp 41) (.tmp 45) 22 rfl X.heap.size 9 j0 (.string ⟨#[]⟩) 1 16 Tryd.underlying22 hj0 hy0 hy1 hy2 rfl (by decide) (.slice (some ⟨X.heap.size + 1, 0, none⟩) 0 0) 0 [] (by rfl) (own_empty e1 (Nat.le_succ _)) ⟨g, 0, none⟩ a cN _ (by rfl) hl1 (HN1.out _ hbZ) h11 (by unfold maxLen; omega) (by omega) hbZ.size ?_)
                intro v5 w5 o5' g5 _
                have o5 : w5.ownsRow X.heap.size 9 1 v5 a ((strV (qs.map (nameAt nms))).take a) := by simpa using o5'
                have hb5 : Below X.heap.size X w5 := hbZ.grown g5 hbZ.size (fun j hj => by simp [Value.ownBlock] at hj; omega)
                clear o5'
                refine ⟨fun _ => HSX.out _ hb5, ?_⟩
                go_simp
                have c5 := (World.cell?_of_block (a := ⟨X.heap.size, 0, none⟩) (g5.block X.heap.size hz1 (by simp [Value.ownBlock]))).trans c10
                refine wpTill.ready (rs := [11]) (by kernel_rfl) (by simp) ?_
                intro i9 hi9
                simp only [List.mem_cons, List.not_mem_nil, or_false] at hi9
                subst hi9
                refine wpOp_of rfl (step_append_own (by rfl) (.tmp 46) (.tmp 51) 22 rfl X.heap.size 9 j0 (.string ⟨#[]⟩) 1 16 Tryd.underlying22 hj0 hy0 hy1 hy2 rfl (by decide) v5 a _ (by rfl) o5 ⟨X.heap.size, 0, none⟩ 1 1 [.string z] (by rfl) rfl (cell_oneR c5) (fun u hu => by simp only [List.mem_singleton] at hu; subst hu; rfl) (by unfold maxLen; omega) (by omega) hb5.size ?_)
                intro v11 w11 o11 g11 _
                have hb11 : Below X.heap.size X w11 := hb5.grown g11 hb5.size (fun j hj => (o5.lt j hj).1)
                refine ⟨fun _ => HSX.out _ hb11, ?_⟩
                clear g11
                go_simp
                refine wpTill.ready (rs := [16]) (by kernel_rfl) (by simp) ?_
                intro i9 hi9
                simp only [List.mem_cons, List.not_mem_nil, or_false] at hi9
                subst hi9
                refine wpOp_of rfl (step_append_own (by rfl) (.tmp 52) (.tmp 56) 22 rfl X.heap.size 9 j0 (.string ⟨#[]⟩) 1 16 Tryd.underlying22 hj0 hy0 hy1 hy2 rfl (by decide) v11 (a + 1) _ (by rfl) o11 D (k - a) (cN - a) _ (by rw [← hD]; rfl) hl2 (HN2.out _ hb11) h12 (by unfold maxLen; omega) (by omega) hb11.size ?_)
                intro v16 w16 o16' g16 _
                have hb16 : Below X.heap.size X w16 := hb11.grown g16 hb11.size (fun j hj => (o11.lt j hj).1)
                refine ⟨fun _ => HSX.out _ hb16, ?_⟩
                clear g16
                rw [show a + 1 + (k - a) = k + 1 from by omega] at o16'
                obtain ⟨a16, c16, e16⟩ := slice_ownM o16'
                subst e16
                have hbox : w16.heap[w.heap.size + 1]? = _ := (hb16.block (w.heap.size + 1) (Nat.lt_of_lt_of_le lt1 hUX.size)).trans ((hUX.block _ lt1).trans HM.out.box)
                obtain ⟨⟨t0, t1, t2, t3⟩, tf⟩ := block4 hbox
                have tf2 := tf 2
                clear tf
                go_simp
                refine wpTill.ready (rs := [17]) (by kernel_rfl) (by simp) ?_
                intro i9 hi9
                simp only [List.mem_cons, List.not_mem_nil, or_false] at hi9
                subst hi9
                refine wpOp_of rfl (step_open (by rfl) ?_)
                go_simp
                refine ⟨by first | exact HSX.out _ hb16 | exact (HSX.out _ hb16).2, ?_⟩
                refine wpTill.ready (rs := [18]) (by kernel_rfl) (by simp) ?_
                intro i9 hi9
                simp only [List.mem_cons, List.not_mem_nil, or_false] at hi9
                subst hi9
                refine wpOp_of rfl (step_open (by rfl) ?_)
                go_simp
                refine wpTill.done (by kernel_rfl) ?_ _
                refine act_eq (KONT.out (.slice (some ⟨X.heap.size + 1, 0, none⟩) 0 0) v5 (.slice (some ⟨X.heap.size, 0, none⟩) 1 1) v11 (.slice a16 (k + 1) c16) (.pointer (some ⟨w.heap.size + 1, 2, none⟩)) _ ⟨a16, c16, rfl, ?_, heap_setCell_same w16 _ 2 _ _ _ hbox, (OnlyL.of_below hb16).trans (OnlyL.set _ _ _ (by simp))⟩) (by kernel_rfl)
                exact owns_other o16' (Nat.lt_of_lt_of_le lt1 hUX.size)
      · have HKE : Hid (k = nms.length) := (by omega : k = nms.length)
        have hlf : ¬ (k : Int) < (nms.length : Int) := by omega
        have hld : decide ((k : Int) < (nms.length : Int)) = false := decide_eq_false hlf
        have hlay : LayAt wr (n + 1) (.mk (.slice aN k cN) (.slice aK k cK) ls) (recOf nms ks qs) := by
          have hn := OwnS.of hM.names
          have hk2 := OwnS.of hM.kids
          have hl1 := hM.len
          refine ⟨?_, by show ls.length = (qs.map (kidAt ks)).length; simp; omega, ?_, fun j h1 h2 => ?_⟩
          · show OwnS wr 9 1 (.slice aN k cN) (qs.map (nameAt nms)).length (strV (qs.map (nameAt nms)))
            rw [List.length_map, hl1.2]; exact hn
          · show OwnS wr 28 4 (.slice aK k cK) (qs.map (kidAt ks)).length (flatK (qs.map (kidAt ks)) ls)
            rw [List.length_map, hl1.2]; exact hk2
          · have h3 : j < qs.length := by have : j < (qs.map (kidAt ks)).length := h2; simpa using this
            have := (hM.lay j h1 h3).1
            have e : ((recOf nms ks qs).kids[j]'h2) = kidAt ks qs[j] := by simp [recOf]
            show LayAt wr n ls[j] _
            rw [e]; exact this
        have hpm : qs.Perm (List.range nms.length) := by rw [← HKE.out]; exact hM.perm
        have hbl := hM.blocks
        have hsz : Ty.sized (n + 1) (recOf nms ks qs) := recOf_sized hpm HNE.out hlnm (fun x hx => by have := textsBulk_mem nms x hx; have := HBK.out; omega) HKS.out
        have hbu := recOf_bulk (n := n) (ks := ks) HNE.out hpm
        have HTY : Hid (Calls Tryd.prog 19 #[.agg #[.int .i64 5, .string ⟨#[]⟩, .slice aN k cN, .slice aK k cK]] wr fun e w' => e = .returned (.bool (decide (Right (n + 1) (recOf nms ks qs) 12))) ∧ Below wr.heap.size wr w') := specTypeOk (n + 1) _ _ wr (hlay.at hsz) (by rw [hbu]; exact HBK.out)
        have HYES : Hid (Right (n + 1) (recOf nms ks qs) 12 → RecAns n nms ks (recOf nms ks qs) true) := fun h => .inl ⟨rfl, HNE.out, qs, hpm, hM.ord, rfl, h⟩
        have HNO : Hid (¬ Right (n + 1) (recOf nms ks qs) 12 → RecAns n nms ks (.mk 0 ⟨#[]⟩ [] []) false) := fun h => .inr ⟨rfl, rfl, fun _ => ⟨qs, hpm, hM.ord, h⟩⟩
        have hrw : wr.heap[w.heap.size]? = _ := (hM.only.block w.heap.size (by omega) (by simp)).trans hr1
        have HLAY : Hid (type_of% hlay) := hlay
        have HBL : Hid (type_of% hbl) := hbl
        have lt0 : w.heap.size < wr.heap.size := by omega
        have lt1 : w.heap.size + 1 < wr.heap.size := by omega
        have lt2 : w.heap.size < W1.heap.size := by omega
        have tb := hM.box
        clear hM hpm hbl hsz hbu hlay HBK HNC HCC HCA HNE HKS HKE tf
        by_cases hR : Right (n + 1) (recOf nms ks qs) 12
        · rw [decide_eq_true hR] at HTY
          have HA : Hid (type_of% (HYES.out hR)) := HYES.out hR
          clear hR HYES HNO
          go_wp2_with fail
          refine HTY.out.mono ?_
          rintro e w3 ⟨rfl, hb3⟩
          have hbw3 : Below w.heap.size w w3 := hbw.trans (hb3.mono (by omega))
          have hr4 := (hb3.block w.heap.size lt0).trans hrw
          obtain ⟨⟨u0, u1, u2, u3⟩, _⟩ := block4 ((hb3.block (w.heap.size + 1) lt1).trans tb)
          obtain ⟨⟨rc0, rc1, rc2, rc3⟩, rf⟩ := block4 hr4
          have rf0 := rf 0
          have rf1 := rf 1
          have rf2 := rf 2
          have rf3 := rf 3
          have HLAY3 : Hid (type_of% (HLAY.out.below hb3)) := HLAY.out.below hb3
          clear rf hrw HTY HLAY tc0 tc1 tc2 tc3 tb hb3
          go_wp2_with fail
          refine ret_recS rfl rfl (put4T fun j hj => ?_) ⟨.mk (.slice aN k cN) (.slice aK k cK) ls, recOf nms ks qs, true, rfl, HA.out, ⟨HLAY3.out.same fun b hb => put_other (by have := HBL.out b hb; omega), fun b hb => by have := HBL.out b hb; omega⟩, put_below hbw3 (Nat.le_refl _)⟩
          match j, hj with
          | 0, _ => rw [rc0]; rfl
          | 1, _ => rw [rc1]; rfl
          | 2, _ => rw [rc2]; rfl
          | 3, _ => rw [rc3]; rfl
        · rw [decide_eq_false hR] at HTY
          have HA : Hid (type_of% (HNO.out hR)) := HNO.out hR
          clear hR HYES HNO HLAY HBL
          go_wp2_with fail
          refine HTY.out.mono ?_
          rintro e w3 ⟨rfl, hb3⟩
          have hbw3 : Below w.heap.size w w3 := hbw.trans (hb3.mono (by omega))
          have hr4 := (hb3.block w.heap.size lt0).trans hrw
          obtain ⟨⟨rc0, rc1, rc2, rc3⟩, rf⟩ := block4 hr4
          have rf0 := rf 0
          have rf1 := rf 1
          have rf2 := rf 2
          have rf3 := rf 3
          clear rf hrw HTY tc0 tc1 tc2 tc3 tb hb3
          go_wp2_with fail
          refine ret_recS rfl rfl (put4T fun j hj => ?_) ⟨.mk (.slice none 0 0) (.slice none 0 0) [], .mk 0 ⟨#[]⟩ [] [], false, rfl, HA.out, plainLayS, put_below hbw3 (Nat.le_refl _)⟩
          match j, hj with
          | 0, _ => rw [rc0]; rfl
          | 1, _ => rw [rc1]; rfl
          | 2, _ => rw [rc2]; rfl
          | 3, _ => rw [rc3]; rfl
  · exact specRecNe n _ _ _ _ nms ks w hne

end Go.Proofs.YtekegcfelaefhaaDoor

namespace Go.Proofs.YtekegcfelaefhaaDoor
open Go.RowKit

set_option maxHeartbeats 6400000 in
set_option maxRecDepth 100000 in
theorem walkRec (n : Nat) (hspec : SpecRecAt n) (vn vk : Value) (nms : List ByteArray) (ks : List Ty) (w : World) (hT : Texts w vn nms) (hl : nms.length ≤ maxLen) (hs : ∀ x ∈ nms, x.size ≤ maxLen) (hrow : RowAt w (TyAt w n) vk ks) (hkl : ks.length ≤ maxLen) (hcls : ClsIs w) :
    Calls Tryd.prog 3 #[vn, vk] w fun e w' => e = .returned (.bool true) ∧ Below w.heap.size w w' := by
  have HZ : Hid (Calls Tryd.prog 4 #[vn, .int .i64 1048576] w fun e w' => e = .returned (.int .i64 (szS nms 1048576)) ∧ w = w') := lawsSz vn nms 1048576 w hT hl hs (by decide) (by decide)
  have HZR : Hid (∀ left : Int, 0 ≤ left → left ≤ 1048576 → Calls Tryd.prog 5 #[vk, .int .i64 left] w fun e w' => e = .returned (.int .i64 (leftOf (rowBulk n ks) left)) ∧ Below w.heap.size w w') := fun left h0 h1 => lawsSzRow n (lawsSzTy n) vk ks left w hrow hkl h0 h1
  obtain ⟨an0, cn0, rfl, _⟩ := textsOpen hT
  obtain ⟨ak0, ck0, rfl, _⟩ := rowOpen hrow
  by_cases hz : (nms.length : Int) + sumS nms ≤ 1048576
  · have hz1 : szS nms 1048576 = 1048576 - nms.length - sumS nms := if_pos hz
    rw [hz1] at HZ
    by_cases hzk : (rowBulk n ks : Int) ≤ 1048576 - nms.length - sumS nms
    · have hz2 : leftOf (rowBulk n ks) (1048576 - nms.length - sumS nms) = 1048576 - nms.length - sumS nms - rowBulk n ks := if_pos hzk
      have HZR2 := HZR.out (1048576 - nms.length - sumS nms) (by omega) (by omega)
      rw [hz2] at HZR2
      have HZR3 : Hid (type_of% HZR2) := HZR2
      have htb := bulk_texts nms
      have hbk : nms.length + Ty.textsBulk nms + rowBulk n ks ≤ 1048576 := by omega
      have hrb : rowBulk n ks ≤ 1048576 := by omega
      have hnl : nms.length ≤ 1048576 := by omega
      have hns : ∀ x ∈ nms, x.size ≤ 1048576 := fun x hx => by have := textsBulk_mem nms x hx; omega
      have hksz : ∀ q ∈ ks, Ty.sized n q := row_sized hrow
      have HTo : Hid (∀ wx : World, Below w.heap.size w wx → Calls Tryd.prog 7 #[.slice an0 nms.length cn0] wx fun e w' => e = .returned (.slice (some ⟨wx.heap.size, 0, none⟩) nms.length nms.length) ∧ w'.ownsRow wx.heap.size 9 1 (.slice (some ⟨wx.heap.size, 0, none⟩) nms.length nms.length) nms.length (strV nms) ∧ Below wx.heap.size wx w') := fun wx hx => lawsTo _ nms wx (hT.below hx) hnl
      have HToR : Hid (∀ wx : World, Below w.heap.size w wx → Calls Tryd.prog 8 #[.slice ak0 ks.length ck0] wx fun e w' => e = .returned (.slice (some ⟨wx.heap.size, 0, none⟩) ks.length ks.length) ∧ NewRow wx.heap.size w'.heap.size w' n (.slice (some ⟨wx.heap.size, 0, none⟩) ks.length ks.length) ks ∧ Below wx.heap.size wx w') := fun wx hx => lawsToRow n (lawsToTy n) _ ks wx (hrow.below hx fun cs t _ h => h.below hx) hrb
      have HSp : Hid (∀ (wx : World) (va vb : Value), Texts wx va nms → RowAt wx (TyAt wx n) vb ks → Calls Tryd.prog 6 #[va, vb] wx fun e w' => ∃ (l : Lay) (t : Ty) (ok : Bool), e = .returned (.tuple #[.agg (cellsK t l).toArray, .bool ok]) ∧ RecAns n nms ks t ok ∧ (LayAt w' (n + 1) l t ∧ ∀ b ∈ Lay.blocks (n + 1) l, wx.heap.size ≤ b) ∧ Below wx.heap.size wx w') := fun wx va vb h1 h2 => hspec va vb nms ks wx h1 h2 hbk
      have HIm : Hid (∀ (wx : World) (va vb : Value), Below w.heap.size w wx → Texts wx va nms → RowAt wx (TyAt wx n) vb ks → Calls Tryd.prog 9 #[va, vb] wx fun e w' => ∃ (l : Lay) (t : Ty) (ok : Bool), e = .returned (.tuple #[.agg (cellsK t l).toArray, .bool ok]) ∧ RecAns n nms ks t ok ∧ NewLay wx.heap.size w' (n + 1) l t ∧ Below wx.heap.size wx w') := fun wx va vb hx h1 h2 => implRecord n va vb nms ks wx h1 h2 hbk (hcls.below hx hcls.lt)
      have HEs : Hid (∀ (wx : World) (va vb : Value), Texts wx va nms → Texts wx vb nms → Calls Tryd.prog 11 #[va, vb] wx fun e w' => e = .returned (.bool true) ∧ Below wx.heap.size wx w') := fun wx va vb h1 h2 => lawsEq va vb nms wx h1 h2 hnl
      have HEr : Hid (∀ (wx : World) (va vb : Value), RowAt wx (TyAt wx n) va ks → RowAt wx (TyAt wx n) vb ks → Calls Tryd.prog 12 #[va, vb] wx fun e w' => e = .returned (.bool true) ∧ Below wx.heap.size wx w') := fun wx va vb h1 h2 => lawsEqRow n (lawsEqTy n) va vb ks wx h1 h2 hrb
      have HEt : Hid (∀ (wx : World) (t : Ty) (ok : Bool) (l l' : Lay), RecAns n nms ks t ok → LayAt wx (n + 1) l t → LayAt wx (n + 1) l' t → Calls Tryd.prog 10 #[.agg (cellsK t l).toArray, .agg (cellsK t l').toArray] wx fun e w' => e = .returned (.bool true) ∧ Below wx.heap.size wx w') := fun wx t ok l l' hr h1 h2 => lawsEqTy (n + 1) _ _ t wx (h1.at (rec_sized hr hnl hns hksz)) (h2.at (rec_sized hr hnl hns hksz)) (rec_bulk hr hbk)
      have HBK : Hid (type_of% hbk) := hbk
      have hneg1 : ¬ (1048576 - (nms.length : Int) - (sumS nms : Int) < 0) := by omega
      have hneg2 : ¬ (1048576 - (nms.length : Int) - (sumS nms : Int) - (rowBulk n ks : Int) < 0) := by omega
      clear hT hrow hcls hspec hs hl hkl hz1 hz2 HZR HZR2 htb hbk hns hksz hz hzk
      go_enter Tryd.func3, Tryd.ntmps3
      go_wp2_with fail
      refine HZ.out.mono ?_
      rintro e w0 ⟨rfl, rfl⟩
      go_wp2_with fail
      refine HZR3.out.mono ?_
      rintro e w1 ⟨rfl, hb1⟩
      clear HZ HZR3
      go_wp2_with fail
      refine (HTo.out _ hb1).mono ?_
      rintro e w2 ⟨rfl, ho2, hb2⟩
      have hw2 := hb1.trans (hb2.mono hb1.size)
      clear hb2
      go_wp2_with fail
      refine (HToR.out _ hw2).mono ?_
      rintro e w3 ⟨rfl, hn3, hb3⟩
      have hw3 := hw2.trans (hb3.mono hw2.size)
      have hT3 : Texts w3 (.slice (some ⟨w1.heap.size, 0, none⟩) nms.length nms.length) nms := texts_owns (OwnS.of (kept_belowT ho2 hb3))
      have hR3 : RowAt w3 (TyAt w3 n) (.slice (some ⟨w2.heap.size, 0, none⟩) ks.length ks.length) ks := (hn3.2 w3 (Above.refl _ _)).row fun lo hi cs t h => h.at
      clear ho2 hn3 hb3 hw2 hb1
      have HS3 : Hid (type_of% (HSp.out w3 _ _ hT3 hR3)) := HSp.out w3 _ _ hT3 hR3
      clear hT3 hR3 HSp
      go_wp2_with fail
      refine HS3.out.mono ?_
      rintro e w4 ⟨l0, t, ok, rfl, hans, ⟨hl0, hl0b⟩, hb4⟩
      have hw4 := hw3.trans (hb4.mono hw3.size)
      obtain ⟨a1, c1, a2, c2, ev1, ev2, ecs⟩ := lay_cells hl0
      rw [ecs]
      clear HS3 hb4 hw3
      have hw5 := hw4.alloc hw4.size (.cells #[.int .i64 t.kind, .string t.name, .slice a1 t.names.length c1, .slice a2 t.kids.length c2] 28)
      go_wp2_with fail
      obtain ⟨W5, hW5⟩ : ∃ W5, W5 = w4.alloc (.cells #[.int .i64 t.kind, .string t.name, .slice a1 t.names.length c1, .slice a2 t.kids.length c2] 28) := ⟨_, rfl⟩
      have hb6 : W5.heap[w4.heap.size]? = some (.cells #[.int .i64 t.kind, .string t.name, .slice a1 t.names.length c1, .slice a2 t.kids.length c2] 28) := by rw [hW5]; exact (MapKept.heap_alloc w4 _).1
      have hl5 : LayAt W5 (n + 1) l0 t := by rw [hW5]; exact hl0.below ((Below.refl _ _).alloc (Nat.le_refl _) _)
      have hl0t : ∀ b ∈ Lay.blocks (n + 1) l0, b < w4.heap.size := fun b hb => hl0.lt hb
      have hs5 : w4.heap.size < W5.heap.size := by rw [hW5]; simp
      rw [← hW5] at hw5 ⊢
      clear hW5
      refine (HTo.out _ hw5).mono ?_
      rintro e w6 ⟨rfl, ho6, hb6'⟩
      have hw6 := hw5.trans (hb6'.mono hw5.size)
      go_wp2_with fail
      refine (HToR.out _ hw6).mono ?_
      rintro e w7 ⟨rfl, hn7, hb7⟩
      have hw7 := hw6.trans (hb7.mono hw6.size)
      have h57 : Below W5.heap.size W5 w7 := hb6'.trans (hb7.mono hb6'.size)
      have ho7 := kept_belowT ho6 hb7
      have hT7 : Texts w7 (.slice (some ⟨W5.heap.size, 0, none⟩) nms.length nms.length) nms := texts_owns (OwnS.of ho7)
      have hR7 : RowAt w7 (TyAt w7 n) (.slice (some ⟨w6.heap.size, 0, none⟩) ks.length ks.length) ks := (hn7.2 w7 (Above.refl _ _)).row fun lo hi cs t h => h.at
      have HI7 : Hid (type_of% (HIm.out w7 _ _ hw7 hT7 hR7)) := HIm.out w7 _ _ hw7 hT7 hR7
      have hs6 : W5.heap.size < w6.heap.size := (ho6.lt W5.heap.size rfl).2
      have hs7 := hb7.size
      clear hT7 hR7 ho6 hb6' hb7
      go_wp2_with fail
      refine HI7.out.mono ?_
      rintro e w8 ⟨lg, t', ok', rfl, hans', hg8, hb8⟩
      obtain ⟨rfl, rfl⟩ := hans.one hans'
      have hw8 := hw7.trans (hb8.mono hw7.size)
      obtain ⟨d1, f1, d2, f2, gv1, gv2, gcs⟩ := lay_cells hg8.1
      rw [gcs]
      have hs8 := hb8.size
      have hgb : ∀ b ∈ Lay.blocks (n + 1) lg, w7.heap.size ≤ b ∧ b < w8.heap.size := fun b hb => ⟨hg8.2.2 b hb, hg8.1.lt hb⟩
      have hb68 : (w8.alloc (.cells #[.int .i64 t.kind, .string t.name, .slice d1 t.names.length f1, .slice d2 t.kids.length f2] 28)).heap[w4.heap.size]? = some (.cells #[.int .i64 t.kind, .string t.name, .slice a1 t.names.length c1, .slice a2 t.kids.length c2] 28) := (((h57.trans (hb8.mono (by omega))).trans (((Below.refl _ w8).alloc (Nat.le_refl _) _).mono (by omega))).block w4.heap.size hs5).trans hb6
      obtain ⟨⟨p0, p1, p2, p3⟩, _⟩ := block4 hb68
      clear hb68
      go_wp2_with fail
      clear p0 p1 p2 p3
      obtain ⟨W9, hW9⟩ : ∃ W9, W9 = w8.alloc (.cells #[.int .i64 t.kind, .string t.name, .slice d1 t.names.length f1, .slice d2 t.kids.length f2] 28) := ⟨_, rfl⟩
      have h89 : Below w8.heap.size w8 W9 := by rw [hW9]; exact (Below.refl _ _).alloc (Nat.le_refl _) _
      have hb10 : W9.heap[w8.heap.size]? = some (.cells #[.int .i64 t.kind, .string t.name, .slice d1 t.names.length f1, .slice d2 t.kids.length f2] 28) := by rw [hW9]; exact (MapKept.heap_alloc w8 _).1
      have hw9 : Below w.heap.size w W9 := hw8.trans (h89.mono hw8.size)
      have h59 : Below W5.heap.size W5 W9 := (h57.trans (hb8.mono (by omega))).trans (h89.mono (by omega))
      have h79 : Below w7.heap.size w7 W9 := hb8.trans (h89.mono hs8)
      have hs9 : w8.heap.size < W9.heap.size := by rw [hW9]; simp
      have hb69 := (h59.block w4.heap.size hs5).trans hb6
      have hl9 : LayAt W9 (n + 1) l0 t := hl5.below h59
      have hg9 : LayAt W9 (n + 1) lg t := hg8.1.below h89
      have hn9 := hn7.step (Above.of_below h79 : Above w6.heap.size w7 W9)
      have ho9 := kept_belowT ho7 h79
      have hgn := hg8.2.1
      rw [← hW9]
      have hle5 := hw5.size
      clear hW9 hb6 hl5 hl0 h57 ho7 hg8 hb8 hn7 HI7 hans' h59 hw5 hw6 hw7 hw8 h79 hl0b hw4
      have HG : Hid (∀ (ex : Nat → Prop) (wx : World), KeepB ex W9 wx → (∀ b, ex b → (W5.heap.size ≤ b ∧ b < w7.heap.size) ∨ b ∈ Lay.blocks (n + 1) lg) → LayAt wx (n + 1) l0 t ∧ wx.heap[w4.heap.size]? = some (.cells #[.int .i64 t.kind, .string t.name, .slice a1 t.names.length c1, .slice a2 t.kids.length c2] 28) ∧ wx.heap[w8.heap.size]? = some (.cells #[.int .i64 t.kind, .string t.name, .slice d1 t.names.length f1, .slice d2 t.kids.length f2] 28)) := fun ex wx hk he => by
        have no : ∀ b, (b < W5.heap.size ∨ b = w8.heap.size) → ¬ ex b := fun b hb hx => by
          rcases he b hx with q | q
          · omega
          · have := hgb b q; omega
        refine ⟨hl9.same fun b hb => hk.2 b (by have := hl0t b hb; omega) (no b (.inl (by have := hl0t b hb; omega))), ?_, ?_⟩
        · rw [hk.2 _ (by omega) (no _ (.inl hs5))]; exact hb69
        · rw [hk.2 _ hs9 (no _ (.inr rfl))]; exact hb10
      have HG1 : Hid (∀ (ex : Nat → Prop) (wx : World), KeepB ex W9 wx → (∀ b, ex b → W5.heap.size ≤ b ∧ b < w7.heap.size) → LayAt wx (n + 1) lg t) := fun ex wx hk he => hg9.same fun b hb => hk.2 b (by have := hgb b hb; omega) fun hx => by have := he b hx; have := hgb b hb; omega
      have HEQ : Hid (∀ wx : World, LayAt wx (n + 1) lg t → LayAt wx (n + 1) l0 t → Calls Tryd.prog 10 #[.agg #[.int .i64 t.kind, .string t.name, .slice d1 t.names.length f1, .slice d2 t.kids.length f2], .agg #[.int .i64 t.kind, .string t.name, .slice a1 t.names.length c1, .slice a2 t.kids.length c2]] wx fun e w' => e = .returned (.bool true) ∧ Below wx.heap.size wx w') := fun wx h1 h2 => by
        have := HEt.out wx t ok lg l0 hans h1 h2
        rw [gcs, ecs] at this
        exact this
      have hok : (ok != ok) = false := by cases ok <;> rfl
      have K9 : KeepB (fun _ => False) W9 W9 := ⟨Nat.le_refl _, fun _ _ _ => rfl⟩
      refine (HEQ.out _ hg9 hl9).mono ?_
      rintro e w10 ⟨rfl, hb10'⟩
      have hw10 := hw9.trans (hb10'.mono hw9.size)
      have ho10 := kept_belowT ho9 hb10'
      have hn10 := hn9.step (Above.of_below hb10' : Above w6.heap.size W9 w10)
      have K10 := K9.below hb10'
      clear hw9 ho9 hn9 hb10' K9
      go_wp2_with fail
      refine (HTo.out _ hw10).mono ?_
      rintro e w11 ⟨rfl, ho11, hb11⟩
      have hw11 := hw10.trans (hb11.mono hw10.size)
      have ho11' := kept_belowT ho10 hb11
      have hn11 := hn10.step (Above.of_below hb11 : Above w6.heap.size w10 w11)
      have K11 := K10.below hb11
      have HE11 : Hid (type_of% (HEs.out w11 _ _ (texts_owns (OwnS.of ho11')) (texts_owns (OwnS.of ho11)))) := HEs.out w11 _ _ (texts_owns (OwnS.of ho11')) (texts_owns (OwnS.of ho11))
      clear hw10 ho10 hn10 hb11 ho11 K10
      go_wp2_with fail
      refine HE11.out.mono ?_
      rintro e w12 ⟨rfl, hb12⟩
      have hw12 := hw11.trans (hb12.mono hw11.size)
      have ho12 := kept_belowT ho11' hb12
      have hn12 := hn11.step (Above.of_below hb12 : Above w6.heap.size w11 w12)
      have K12 := K11.below hb12
      clear hw11 ho11' hn11 hb12 K11 HE11
      go_wp2_with fail
      refine (HToR.out _ hw12).mono ?_
      rintro e w13 ⟨rfl, hn13', hb13⟩
      have hw13 := hw12.trans (hb13.mono hw12.size)
      have ho13 := kept_belowT ho12 hb13
      have hn13 := hn12.step (Above.of_below hb13 : Above w6.heap.size w12 w13)
      have K13 := K12.below hb13
      have HE13 : Hid (type_of% (HEr.out w13 _ _ ((hn13.2 w13 (Above.refl _ _)).row fun lo hi cs t h => h.at) ((hn13'.2 w13 (Above.refl _ _)).row fun lo hi cs t h => h.at))) := HEr.out w13 _ _ ((hn13.2 w13 (Above.refl _ _)).row fun lo hi cs t h => h.at) ((hn13'.2 w13 (Above.refl _ _)).row fun lo hi cs t h => h.at)
      clear hw12 ho12 hn12 hb13 hn13' K12
      go_wp2_with fail
      refine HE13.out.mono ?_
      rintro e w14 ⟨rfl, hb14⟩
      have hw14 := hw13.trans (hb14.mono hw13.size)
      have ho14 := kept_belowT ho13 hb14
      have hn14 := hn13.step (Above.of_below hb14 : Above w6.heap.size w13 w14)
      have K14 := (K13.below hb14).mono (ex' := fun b => W5.heap.size ≤ b ∧ b < w7.heap.size) (fun b h => h.elim)
      clear hw13 ho13 hn13 hb14 K13 HE13
      have HM14 := lawsMarkN _ nms.length W5.heap.size W5.heap.size w6.heap.size 1 _ _ ho14 (fun g hg => by simp only [Value.ownBlock, Option.some.injEq] at hg; omega) (by omega) (by omega) (by omega)
      have HM : Hid (type_of% HM14) := HM14
      clear HM14
      go_wp2_with fail
      refine HM.out.mono ?_
      rintro e w15 ⟨rfl, _, on15⟩
      have hw15 := hw14.trans (on15.below hle5 hw14.size)
      have hn15 := hn14.step ⟨on15.size, fun b h1 h2 => on15.block b h2 (.inr h1)⟩
      have K15 := K14.only on15 (fun b h1 h2 => ⟨h1, by omega⟩)
      clear hw14 ho14 hn14 on15 K14 HM
      have HM15 := lawsMarkRow n _ ks w6.heap.size w7.heap.size (1 + nms.length) w15 (hn15.2 w15 (Above.refl _ _)) (Nat.le_trans hn15.1 (Nat.le_refl _)) hrb (by omega) (by omega)
      rw [show (((1 + nms.length : Nat)) : Int) = 1 + nms.length from by omega] at HM15
      have HM : Hid (type_of% HM15) := HM15
      clear HM15
      go_wp2_with fail
      refine HM.out.mono ?_
      rintro e w16 ⟨k1, rfl, _, _, on16⟩
      have hw16 := hw15.trans (on16.below (by omega : w.heap.size ≤ w6.heap.size) hw15.size)
      have K16 := K15.only on16 (fun b h1 h2 => ⟨by omega, h2⟩)
      clear hw15 hn15 on16 K15 HM
      have lg16 := HG1.out _ w16 K16 (fun b h => h)
      obtain ⟨l16, x6, x10⟩ := HG.out _ w16 K16 (fun b h => .inl h)
      obtain ⟨⟨p0, p1, p2, p3⟩, _⟩ := block4 x6
      obtain ⟨⟨r0, r1, r2, r3⟩, _⟩ := block4 x10
      have HE16 : Hid (type_of% (HEQ.out _ lg16 l16)) := HEQ.out _ lg16 l16
      clear lg16 l16 x6 x10
      have hk0 : ¬ ((k1 : Int) < 0) := by omega
      go_wp2_with fail
      refine HE16.out.mono ?_
      rintro e w17 ⟨rfl, hb17⟩
      have hw17 := hw16.trans (hb17.mono hw16.size)
      have K17 := K16.below hb17
      clear hw16 K16 p0 p1 p2 p3 r0 r1 r2 r3 HE16 hb17
      have lg17 := HG1.out _ w17 K17 (fun b h => h)
      obtain ⟨_, _, x10⟩ := HG.out _ w17 K17 (fun b h => .inl h)
      obtain ⟨⟨r0, r1, r2, r3⟩, _⟩ := block4 x10
      have hbt := rec_bulk hans HBK.out
      obtain ⟨M, hM0, HMT, HHT⟩ : ∃ M : Int, 0 ≤ M ∧ Hid (∀ wx : World, LayAt wx (n + 1) lg t → Calls Tryd.prog 15 #[.agg #[.int .i64 t.kind, .string t.name, .slice d1 t.names.length f1, .slice d2 t.kids.length f2], .int .i64 1] wx fun e w' => e = .returned (.int .i64 M) ∧ LayAt w' (n + 1) lg (markTop (n + 1) 1 t) ∧ OnlyL (Lay.blocks (n + 1) lg) wx w') ∧ Hid (∀ wx : World, LayAt wx (n + 1) lg (markTop (n + 1) 1 t) → Calls Tryd.prog 16 #[.agg #[.int .i64 t.kind, .string t.name, .slice d1 t.names.length f1, .slice d2 t.kids.length f2], .int .i64 1] wx fun e w' => e = .returned (.int .i64 M) ∧ Below wx.heap.size wx w') := by
        refine ⟨((1 + cntT (n + 1) t : Nat) : Int), by omega, fun wx hx => ?_, fun wx hx => ?_⟩
        · have := lawsMarkTyL (n + 1) lg t 1 wx hx hgn hbt (by omega) (by omega)
          rw [gcs] at this
          exact this
        · have := lawsHeldTyL (n + 1) lg t 1 wx hx hbt (by omega) (by omega)
          rw [gcs] at this
          exact this
      have hM1 : ¬ M < 0 := by omega
      clear hbt x10 HG1 hk0
      go_wp2_with fail
      refine (HMT.out _ lg17).mono ?_
      rintro e w18 ⟨rfl, hm18, on18⟩
      have hw18 := hw17.trans (on18.below (fun x hx => by have := hgb x hx; omega) hw17.size)
      have K18 := (K17.mono (ex' := fun b => (W5.heap.size ≤ b ∧ b < w7.heap.size) ∨ b ∈ Lay.blocks (n + 1) lg) (fun b h => .inl h)).onlyL on18 (fun b h => .inr h)
      clear r0 r1 r2 r3 lg17 on18 hw17 K17 HMT
      obtain ⟨_, _, x10⟩ := HG.out _ w18 K18 (fun b h => h)
      obtain ⟨⟨r0, r1, r2, r3⟩, _⟩ := block4 x10
      clear x10
      go_wp2_with fail
      refine (HHT.out _ hm18).mono ?_
      rintro e w19 ⟨rfl, hb19⟩
      have hw19 := hw18.trans (hb19.mono hw18.size)
      have hm19 := hm18.below hb19
      have K19 := K18.below hb19
      clear r0 r1 r2 r3 hw18 hm18 K18 hb19
      go_wp2_with fail
      refine (HTo.out _ hw19).mono ?_
      rintro e w20 ⟨rfl, ho20, hb20⟩
      have hw20 := hw19.trans (hb20.mono hw19.size)
      have hm20 := hm19.below hb20
      have K20 := K19.below hb20
      clear hw19 hm19 K19 hb20
      go_wp2_with fail
      refine (HToR.out _ hw20).mono ?_
      rintro e w21 ⟨rfl, hn21, hb21⟩
      have hw21 := hw20.trans (hb21.mono hw20.size)
      have hm21 := hm20.below hb21
      have K21 := K20.below hb21
      have hT21 : Texts w21 (.slice (some ⟨w19.heap.size, 0, none⟩) nms.length nms.length) nms := texts_owns (OwnS.of (kept_belowT ho20 hb21))
      have hR21 : RowAt w21 (TyAt w21 n) (.slice (some ⟨w20.heap.size, 0, none⟩) ks.length ks.length) ks := (hn21.2 w21 (Above.refl _ _)).row fun lo hi cs t h => h.at
      have HI21 : Hid (type_of% (HIm.out w21 _ _ hw21 hT21 hR21)) := HIm.out w21 _ _ hw21 hT21 hR21
      clear hw20 hm20 K20 hb21 hT21 hR21 ho20 hn21
      go_wp2_with fail
      refine HI21.out.mono ?_
      rintro e w22 ⟨lh, t2, ok2, rfl, hans2, hh22, hb22⟩
      obtain ⟨rfl, rfl⟩ := hans.one hans2
      have hw22 := hw21.trans (hb22.mono hw21.size)
      have hm22 := hm21.below hb22
      have K22 := K21.below hb22
      obtain ⟨e1, u1, e2, u2, _, _, hcs⟩ := lay_cells hh22.1
      rw [hcs]
      have hB23 : Below w22.heap.size w22 (w22.alloc (.cells #[.int .i64 t.kind, .string t.name, .slice e1 t.names.length u1, .slice e2 t.kids.length u2] 28)) := (Below.refl _ _).alloc (Nat.le_refl _) _
      have hw23 := hw22.trans (hB23.mono hw22.size)
      have hm23 := hm22.below hB23
      have K23 := K22.below hB23
      have hh23 := hh22.1.below hB23
      obtain ⟨l23, x6, _⟩ := HG.out _ _ K23 (fun b h => h)
      obtain ⟨⟨p0, p1, p2, p3⟩, _⟩ := block4 x6
      have HE23 := HEt.out _ t ok lh l0 hans hh23 l23
      rw [hcs, ecs] at HE23
      have HE : Hid (type_of% HE23) := HE23
      clear HE23 hw21 hm21 K21 hb22 hB23 hw22 hm22 K22 x6 l23 hh23 hh22 HI21 hans2
      go_wp2_with fail
      clear p0 p1 p2 p3
      generalize (w22.alloc (.cells #[.int .i64 t.kind, .string t.name, .slice e1 t.names.length u1, .slice e2 t.kids.length u2] 28)) = W23 at *
      refine HE.out.mono ?_
      rintro e w24 ⟨rfl, hb24⟩
      have hw24 := hw23.trans (hb24.mono hw23.size)
      have hm24 := hm23.below hb24
      have K24 := K23.below hb24
      clear hw23 hm23 K23 hb24 HE
      obtain ⟨_, _, x10⟩ := HG.out _ w24 K24 (fun b h => h)
      obtain ⟨⟨r0, r1, r2, r3⟩, _⟩ := block4 x10
      clear x10
      go_wp2_with fail
      refine (HHT.out _ hm24).mono ?_
      rintro e w25 ⟨rfl, hb25⟩
      have hw25 := hw24.trans (hb25.mono hw24.size)
      clear hw24 hm24 K24 hb25 HHT
      go_wp2_with fail
      go_ret
      exact ⟨rfl, hw25⟩
    · have hz2 : leftOf (rowBulk n ks) (1048576 - nms.length - sumS nms) = -1 := if_neg hzk
      have HZR2 := HZR.out (1048576 - nms.length - sumS nms) (by omega) (by omega)
      rw [hz2] at HZR2
      have HZR3 : Hid (type_of% HZR2) := HZR2
      have hneg1 : ¬ (1048576 - (nms.length : Int) - (sumS nms : Int) < 0) := by omega
      clear hT hrow hcls hspec hs hl hkl hz1 hz2 HZR HZR2 hz hzk
      go_enter Tryd.func3, Tryd.ntmps3
      go_wp2_with fail
      refine HZ.out.mono ?_
      rintro e w0 ⟨rfl, rfl⟩
      go_wp2_with fail
      refine HZR3.out.mono ?_
      rintro e w1 ⟨rfl, hb1⟩
      go_wp2_with fail
      go_ret
      exact ⟨rfl, hb1⟩
  · have hz1 : szS nms 1048576 = -1 := if_neg hz
    rw [hz1] at HZ
    clear hT hrow hcls hspec hs hl hkl hz1 HZR hz
    go_enter Tryd.func3, Tryd.ntmps3
    go_wp2_with fail
    refine HZ.out.mono ?_
    rintro e w0 ⟨rfl, rfl⟩
    go_wp2_with fail
    go_ret
    exact ⟨rfl, Below.refl _ _⟩

end Go.Proofs.YtekegcfelaefhaaDoor

namespace Go.Proofs.YtekegcfelaefhaaDoor.exactRecord
open Go.ChangeShapes Go.WideShapes Go.ChangeAt Go.RowKit

theorem own : ownKnob Tryd.prog.godebug = none := by kernel_rfl
theorem gTab : Tryd.prog.globalNamed "loop.example/g00276/impl.classes" = some 1 := by kernel_rfl
theorem gTabType : (Tryd.prog.globals[1]?).map (·.type) = some 113 := by kernel_rfl
def clsTab : List Int := (List.range 128).map fun i => (Lx.cls i : Int)
theorem tabDatum : (Rows.laid_loop_example_g00276_impl_classes : DataW Unit) = Lib.tabData .u8 clsTab := by kernel_rfl
theorem clsIs {W : World} (h : Lib.TabIs Tryd.prog W "loop.example/g00276/impl.classes" .u8 clsTab) : ClsIs W := fun i hi => by
  have := h.cell gTab i (by simp [clsTab]; exact hi)
  rw [this]
  simp [clsTab, List.getD, hi]

theorem table {W : World} (h : laidMetH Tryd.prog Rows.fnExactRecordRow.laid W) : ClsIs W := by
  have h2 : laidMet Tryd.prog [("loop.example/g00276/impl.classes", Rows.laid_loop_example_g00276_impl_classes)] W := h
  rw [tabDatum] at h2
  exact clsIs (Lib.tabIs_of_head gTab gTabType Tryd.underlying113 Tryd.underlying5 (by kernel_rfl) (by kernel_rfl) h2)

set_option maxRecDepth 100000 in
theorem opened_row {H : Type} {enc : TypeId × Value → H} {W : World} {base : Nat} {sp : Nat → Bool} {held : Bool} (n : Nat) (v : Value) (x : DataW H × List MemPlace) (h : DataW.trod enc Tryd.prog W base sp held n 23 [v] = some x) : ∃ (m : Nat) (ks : List Ty), RowAt W (TyAt W m) v ks ∧ ks.length ≤ maxLen := by
  have c4 : Tryd.prog.cellsOf 41 = 4 := by kernel_rfl
  rcases DataW.trod_slice Tryd.underlying23 h with ⟨hcs, _⟩ | ⟨a, len, cap, elems, rest, m2, rfl, hcs, _, hb, hlc, hcm, hel, heach, _, _⟩
  · obtain rfl : v = .slice none 0 0 := by simpa using hcs
    exact ⟨0, [], .inl ⟨rfl, _, _, rfl⟩, by simp⟩
  · obtain rfl : v = .slice (some a) len cap := by simpa using hcs
    rw [c4] at heach
    have each : ∀ i, i < len → ∃ q : Ty × List Value, TyAt W m2 q.2 q.1 ∧ ∀ c u, q.2[c]? = some u → W.cell? ((a.add (i * 4)).add c) = some u := fun i hi => by
      have hi2 := heach i hi
      rw [List.getElem?_eq_getElem (by omega)] at hi2
      obtain ⟨cs', h1, h2⟩ := Option.bind_eq_some_iff.1 hi2
      obtain ⟨t, ht⟩ := opened_ty m2 cs' _ h2
      obtain ⟨_, hlen, hcell⟩ := World.cells?_some h1
      refine ⟨(t, cs'), ht, fun c u hu => ?_⟩
      have hc : c < 4 := by
        have : c < cs'.length := (List.getElem?_eq_some_iff.1 hu).1
        omega
      rw [hcell c hc]
      exact hu
    haveI : Inhabited (Ty × List Value) := ⟨(.mk 0 ByteArray.empty [] [], [])⟩
    obtain ⟨q, hq⟩ := Go.Deep.choose_lt each
    refine ⟨m2, (List.range len).map fun i => (q i).1, ?_, by simp; omega⟩
    by_cases h0 : len = 0
    · subst h0
      exact .inl ⟨rfl, _, _, rfl⟩
    · obtain ⟨b, off, spot⟩ := a
      have hspot : spot = none := by
        obtain ⟨h1, h2⟩ := hq 0 (by omega)
        have hlen := h1.len
        have hc := h2 0 _ (List.getElem?_eq_getElem (by omega))
        simpa [Addr.add] using World.cell?_spot hc
      subst hspot
      refine .inr ⟨b, off, cap, by simp, fun j hj => ?_⟩
      have hj2 : j < len := by simpa using hj
      obtain ⟨h1, h2⟩ := hq j hj2
      refine ⟨(q j).2, ?_, fun c u hu => ?_⟩
      · simp only [List.getElem_map, List.getElem_range]
        exact h1
      · have := h2 c u hu
        rw [Addr.add_lit, Addr.add_lit] at this
        exact this

theorem laidOut : laidOutB Tryd.prog = true := by kernel_rfl

set_option maxRecDepth 100000 in
theorem contract (H : Type) (enc : TypeId × Value → H) (W : World) (base : Nat) (args : Array Value) (ds gs : List (DataW H)) (before : List MemPlace)
    (hval : ∀ (j : Nat) t v, Tryd.f3.params[j]? = some t → args[j]? = some v → Value.okWide Tryd.prog W .any base t v)
    (hW : DataW.Whole enc Tryd.prog Tryd.f3.params.toList Rows.fnExactRecordSpec.vars false W args.toList ds gs before) (hL : laidMetH Tryd.prog Rows.fnExactRecordRow.laid W) :
    Calls Tryd.prog 3 args W fun e W' => ∃ v, e = .returned v ∧ Rows.fnExactRecordSpec.post enc Tryd.prog Tryd.f3 false true false false W args v W' := by
  have hW' := hW
  obtain ⟨p, q, hA0, hV, rfl, hfz, hnd⟩ := hW
  have hA : DataW.TrodAll enc Tryd.prog W 0 (fun _ => true) true Tryd.f3.params.toList args.toList ds p := hA0
  rw [Tryd.params3] at hA hval
  obtain ⟨v0, vs0, d0, ds0, p0, q0, hargs, rfl, rfl, h0, r0⟩ := trodAll_cons hA
  obtain ⟨v1, vs1, d1, ds1, p1, q1, rfl, rfl, rfl, h1, r1⟩ := trodAll_cons r0
  obtain ⟨rfl, rfl, rfl⟩ := trodAll_nil r1
  obtain rfl : args = #[v0, v1] := by cases args; simp_all
  have hV0 := hV
  obtain ⟨g0, t0, cs0, fu0, dv, pv, rfl, _, _, _, _, _⟩ := trodVars_one hV
  obtain ⟨a0, len0, cap0, rfl⟩ := okWide_slice Tryd.underlying22 (hval 0 22 v0 rfl rfl)
  obtain ⟨a1, len1, cap1, rfl⟩ := okWide_slice Tryd.underlying23 (hval 1 23 v1 rfl rfl)
  have k0 := h0
  have lt0 : ∀ x ∈ p0, x.block < W.heap.size := by obtain ⟨m, hm⟩ := k0; exact DataW.trod_lt m _ _ _ hm
  have k1 := h1
  have lt1 : ∀ x ∈ p1, x.block < W.heap.size := by obtain ⟨m, hm⟩ := k1; exact DataW.trod_lt m _ _ _ hm
  obtain ⟨fuel, hf⟩ := h0
  obtain ⟨nms, hT, hl, hs⟩ := opened_texts hf
  obtain ⟨fuel1, hf1⟩ := h1
  obtain ⟨m, ks, hrow, hkl⟩ := opened_row fuel1 _ _ hf1
  clear hA0
  refine (walkRec m (specRecord m) _ _ nms ks W hT hl hs hrow hkl (table hL)).mono fun e W' ⟨he, bel⟩ => ?_
  subst he
  exact ⟨_, rfl, _, _, _, [], _, _, hW', trodAll_mk1 (shut_bool Tryd.underlying4 _), (trodAll_cons_mk (Below.trod laidOut (by kernel_rfl) (of_decide_eq_true (by kernel_rfl)) k0 bel lt0) (trodAll_cons_mk (Below.trod laidOut (by kernel_rfl) (of_decide_eq_true (by kernel_rfl)) k1 bel lt1) trodAll_mk0)), Below.trodVars laidOut bel (by kernel_rfl) hV0, bel.frame _, fun h => by cases h⟩

def fill (cs : Array Value) : Obj → Obj
  | .cells _ t frozen => .cells cs t frozen
  | o => o
def laidWorld (P : Program) (os : Os) : World :=
  { World.holding P os ⟨#[], #[], []⟩ with heap := (World.holding P os ⟨#[], #[], []⟩).heap.modify 1 (fill (clsTab.map fun z => Value.int .u8 z).toArray) }
theorem laid_met (os : Os) : laidMet Tryd.prog Rows.fnExactRecordRow.laid ((laidWorld Tryd.prog os).forCall (fun _ _ => 0) ⟨#[], #[.slice none 0 0, .slice none 0 0], []⟩).memory :=
  laidMet_of_run' 8 (by kernel_rfl) (by kernel_rfl)
theorem reads (os : Os) {H : Type} (enc : TypeId × Value → H) : ∃ places, DataW.whole enc Tryd.prog ((laidWorld Tryd.prog os).forCall (fun _ _ => 0) ⟨#[], #[.slice none 0 0, .slice none 0 0], []⟩).memory Tryd.f3.params.toList Rows.fnExactRecordSpec.vars false #[Value.slice none 0 0, .slice none 0 0].toList 8 = some ([.nil, .nil], [Rows.laid_loop_example_g00276_impl_classes], places) :=
  ⟨MemPlace.row ⟨1, 0, none⟩ 128, by kernel_rfl⟩

set_option maxRecDepth 100000 in
theorem lifted (os : Os) (started : os.Started) (H : Type) (enc : TypeId × Value → H) (F : Stop.Interp) :
    ReturnsInHanded {} Tryd.checked os 3 .any ((OpenSpec.ofChange Rows.fnExactRecordSpec).preRow enc Tryd.prog Tryd.f3 Rows.fnExactRecordRow.domain false Rows.fnExactRecordRow.laid) (((OpenSpec.ofChange Rows.fnExactRecordSpec).at F).post enc Tryd.prog Tryd.f3 false true false false) := by
  obtain ⟨places, hx⟩ := reads os enc
  refine returnsInHanded_of_row (C := Tryd.checked) (s := OpenSpec.ofChange Rows.fnExactRecordSpec) own started (by kernel_rfl) Tryd.func3
    (witness_row_at (enc := enc) (C := Tryd.checked) false (laidWorld Tryd.prog os) #[.slice none 0 0, .slice none 0 0] rfl (by kernel_rfl) (by kernel_rfl) (by kernel_rfl)
      (OpenSpec.preRow_of_cond 8 hx (by kernel_rfl) (fun k hk => by cases hk) (by kernel_rfl) (laid_met os))) ?_
  intro W base args ds gs before hval hW _ _ _ hL _ _
  exact contract H enc W base args ds gs before hval hW hL

theorem said : Rows.FnExactRecordSaid :=
  OpenClaim.holds_of_cond 3 Tryd.f3 rfl rfl rfl rfl rfl rfl rfl ⟨rfl, rfl, rfl, rfl, rfl⟩ rfl rfl rfl rfl rfl (by kernel_rfl) Tryd.func3 (by kernel_rfl)
    (of_decide_eq_true (by kernel_rfl)) (by unfold Func.isWrapper; first | (rw [if_pos (by decide +kernel)]; kernel_rfl) | (rw [if_neg (by decide +kernel)]; exact ⟨rfl, rfl⟩))
    (fun os started H enc _ F => by rw [OpenClaim.pre_eq_preRow]; exact lifted os started H enc F)

theorem plain (f : FuncId) (fn : Func) (hf : Tryd.pinned.checked.prog.funcNamed "loop.example/g00276/laws.FnExactRecord" = some f) (hfn : Tryd.pinned.checked.prog.funcs[f]? = some fn) :
    Rows.fnExactRecordCard.stood.looks = Tryd.pinned.checked.prog.looks [] ∧ ∀ (j : Nat) t, fn.params[j]? = some t → Tryd.pinned.checked.prog.wantsStandIn t = false := by
  obtain rfl : f = 3 := Option.some.inj ((show Tryd.prog.funcNamed "loop.example/g00276/laws.FnExactRecord" = some 3 by kernel_rfl).symm.trans hf) |>.symm
  obtain rfl : fn = Tryd.f3 := (Option.some.inj (Tryd.func3.symm.trans hfn)).symm
  refine ⟨by kernel_rfl, fun j t ht => ?_⟩
  rw [Tryd.params3] at ht
  have hm : t = 22 ∨ t = 23 := by simpa using Array.mem_of_getElem? ht
  rcases hm with rfl | rfl
  · exact (show Tryd.prog.wantsStandIn 22 = false by kernel_rfl)
  · exact (show Tryd.prog.wantsStandIn 23 = false by kernel_rfl)

end Go.Proofs.YtekegcfelaefhaaDoor.exactRecord

namespace Go.Proofs.YtekegcfelaefhaaDoor

theorem exactRecord_holds : Rows.FnExactRecordCardSaid :=
  Claim7.holds_tied_plain_at .later [] _ _ _ _ exactRecord.said (fun _ h => by cases h) (by kernel_rfl) (fun _ h => by cases h) fnExactRecord_row_tie rfl ⟨rfl, rfl⟩ (by kernel_rfl) rfl exactRecord.plain (by kernel_rfl)

end Go.Proofs.YtekegcfelaefhaaDoor
