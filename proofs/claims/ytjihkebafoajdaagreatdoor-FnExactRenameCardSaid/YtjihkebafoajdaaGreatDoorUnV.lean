/-
  The walk of spec.Union.
-/
import Derived.Test.YtjihkebafoajdaaGreatDoorUnB
import Derived.Test.YtjihkebafoajdaaGreatDoorTyO
import Derived.Test.YtjihkebafoajdaaGreatDoorTypeJ
namespace Go.Proofs.YtjihkebafoajdaaGreatDoor
open Go.RowKit

theorem ret_unS {R : Ending → World → Prop} {W : World} {tmps : Array Value} {b : Nat} {x0 x1 x2 x3 : Value} {ok : Bool} (hp : tmps[2]?.getD undef = .pointer (some ⟨b, 0, none⟩)) (hq : tmps[3]?.getD undef = .bool ok)
    (h : W.cell? ⟨b, 0, none⟩ = some x0 ∧ W.cell? ⟨b, 1, none⟩ = some x1 ∧ W.cell? ⟨b, 2, none⟩ = some x2 ∧ W.cell? ⟨b, 3, none⟩ = some x3) (hR : R (.returned (.tuple #[.agg #[x0, x1, x2, x3], .bool ok])) W) :
    bodyPost Tryz.prog Tryz.f6 R .ret { tmps := tmps, defers := [] } W := by
  obtain ⟨h0, h1, h2, h3⟩ := h
  refine bodyPost_ret (v := .tuple #[.agg #[x0, x1, x2, x3], .bool ok]) ?_ rfl hR
  simp [results, Tryz.results6, go_sem, hp, hq, h0, h1, h2, h3]
theorem plainLayU {B : Nat} {w : World} {n : Nat} {kd : Int} {nm : ByteArray} : LayAt w (n + 1) (.mk (.slice none 0 0) (.slice none 0 0) []) (.mk kd nm [] []) ∧ ∀ b ∈ Lay.blocks (n + 1) (.mk (.slice none 0 0) (.slice none 0 0) []), B ≤ b := by
  have h : NewLay B w (n + 1) (.mk (.slice none 0 0) (.slice none 0 0) []) (.mk kd nm [] []) := plainLay
  exact ⟨h.1, h.2.2⟩
theorem lay_put {B R : Nat} {w : World} {n : Nat} {l : Lay} {t : Ty} {x0 x1 x2 x3 : Value} (h : LayAt w n l t ∧ ∀ b ∈ Lay.blocks n l, R + 1 ≤ b) (hB : B ≤ R) : LayAt ((((w.setCell ⟨R, 0, none⟩ x0).setCell ⟨R, 1, none⟩ x1).setCell ⟨R, 2, none⟩ x2).setCell ⟨R, 3, none⟩ x3) n l t ∧ ∀ b ∈ Lay.blocks n l, B ≤ b :=
  ⟨h.1.same fun b hb => put_other (by have := h.2 b hb; omega), fun b hb => by have := h.2 b hb; omega⟩

/-- what spec.Union leaves -/
def UPost (n : Nat) (ts : List Ty) (w : World) (e : Ending) (w' : World) : Prop := ∃ (l : Lay) (t : Ty) (ok : Bool), e = .returned (.tuple #[.agg (cellsK t l).toArray, .bool ok]) ∧ UAns n ts t ok ∧ (LayAt w' (n + 1) l t ∧ ∀ b ∈ Lay.blocks (n + 1) l, w.heap.size ≤ b) ∧ Below w.heap.size w w'

/-- whether any is among them -/
def anyIn (ts : List Ty) : Bool := ts.any fun q => q.kind == 3
theorem anyIn_more (ts : List Ty) (k : Nat) (h : k < ts.length) : anyIn (ts.take (k + 1)) = (anyIn (ts.take k) || ts[k].kind == 3) := by
  unfold anyIn
  rw [List.take_succ_eq_append_getElem h, List.any_append]
  simp
theorem anyIn_yes {ts : List Ty} (h : anyIn ts = true) : ∃ q ∈ ts, q.kind = 3 := by
  unfold anyIn at h
  rw [List.any_eq_true] at h
  obtain ⟨q, hq, h3⟩ := h
  exact ⟨q, hq, by simpa using h3⟩
theorem anyIn_no {ts : List Ty} (h : anyIn ts = false) : ∀ q ∈ ts, q.kind ≠ 3 := fun q hq h3 => by
  unfold anyIn at h
  rw [List.any_eq_false] at h
  exact h q hq (by simp [h3])

set_option maxHeartbeats 6400000 in
set_option maxRecDepth 100000 in
open Classical in
theorem specUnion (n : Nat) (vk : Value) (ts : List Ty) (w : World) (hrow : RowAt w (TyAt w n) vk ts) (hbk : rowBulk n ts ≤ 274877906944) :
    Calls Tryz.prog 6 #[vk] w (UPost n ts w) := by
  have hlen : ts.length ≤ 274877906944 := by unfold rowBulk at hbk; omega
  obtain ⟨ak, ck, rfl, hel⟩ := rowOpen hrow
  have HEL : Hid (type_of% hel) := hel
  have HSZ : Hid (∀ q ∈ ts, Ty.sized n q) := fun q hq => by
    obtain ⟨j, hj, rfl⟩ := List.getElem_of_mem hq
    obtain ⟨b, off, x0, x1, x2, x3, _, _, hta, _⟩ := hel j hj
    exact hta.sized
  have HBK : Hid (type_of% hbk) := hbk
  have hBW1 : Below w.heap.size w ((w.alloc (.cells #[.int .i64 0, .string ⟨#[]⟩, .slice none 0 0, .slice none 0 0] 27)).alloc (.cells #[] 27)) := ((Below.refl _ _).alloc (Nat.le_refl _) _).alloc (by simp) _
  have hr1 : ((w.alloc (.cells #[.int .i64 0, .string ⟨#[]⟩, .slice none 0 0, .slice none 0 0] 27)).alloc (.cells #[] 27)).heap[w.heap.size]? = some (.cells #[.int .i64 0, .string ⟨#[]⟩, .slice none 0 0, .slice none 0 0] 27 (0, 0)) := heap_first w _ _
  have hK1 : KidsS ((w.alloc (.cells #[.int .i64 0, .string ⟨#[]⟩, .slice none 0 0, .slice none 0 0] 27)).alloc (.cells #[] 27)) (w.heap.size + 1) n (w.heap.size + 1) 0 [] [] := ⟨rfl, own_empty4 (heap_second w _ _) (Nat.le_refl _), fun j h1 _ => absurd h1 (by simp)⟩
  clear hrow hel hbk
  go_enter Tryz.func6, Tryz.ntmps6
  go_wp2_with fail
  go_loopw [4, 5, 6] (fun v a i wr => ∃ (k : Nat) (S : List Ty) (ls : List Lay) (g cap : Nat), k ≤ ts.length ∧ v = .slice (some ⟨g, 0, none⟩) S.length cap ∧ a = .bool (anyIn (ts.take k)) ∧ i = .int .i64 k ∧ (∀ q ∈ ts.take k, Right n q 12) ∧ UnionS n (ts.take k) S ∧ KidsS wr (w.heap.size + 1) n g cap S ls ∧ wr.heap[w.heap.size]? = some (.cells #[.int .i64 0, .string ⟨#[]⟩, .slice none 0 0, .slice none 0 0] 27 (0, 0)) ∧ Below w.heap.size w wr) (fun _ _ i _ => ts.length - (intOf i).toNat)
  case atStart => exact ⟨0, [], [], w.heap.size + 1, 0, Nat.zero_le _, rfl, rfl, rfl, fun q hq => absurd hq (by simp), ⟨fun x => by simp [atoms], List.Pairwise.nil⟩, hK1, hr1, hBW1⟩
  case round =>
    obtain ⟨wo, rfl⟩ : ∃ wo, wo = wr := ⟨_, rfl⟩
    obtain ⟨k, S, ls, g, cap, hk, rfl, rfl, rfl, hRt, hU, hKS, hbox, hbe⟩ := hrel
    have HRT : Hid (type_of% hRt) := hRt
    have HU : Hid (type_of% hU) := hU
    have HKS : Hid (type_of% hKS) := hKS
    have lt0 : w.heap.size < wo.heap.size := (Array.getElem?_eq_some_iff.1 hbox).1
    clear hRt hU hKS hr1 hK1 hBW1
    by_cases hlt : k < ts.length
    · obtain ⟨b, off, x0, x1, x2, x3, rfl, hba, hta, a0, a1, a2, a3⟩ := HEL.out k hlt
      obtain ⟨an, ln, cn, ak, lk, ck, e⟩ := hta.shape
      simp only [List.cons.injEq, and_true] at e
      obtain ⟨rfl, rfl, rfl, rfl⟩ := e
      have A0 := (hbe.cell (p := ⟨b, off + k * 4, none⟩) hba).trans a0
      have A1 := (hbe.cell (p := ⟨b, off + k * 4 + 1, none⟩) hba).trans a1
      have A2 := (hbe.cell (p := ⟨b, off + k * 4 + 2, none⟩) hba).trans a2
      have A3 := (hbe.cell (p := ⟨b, off + k * 4 + 3, none⟩) hba).trans a3
      have hbx : Below wo.heap.size wo (wo.alloc (.cells #[.int .i64 ts[k].kind, .string ts[k].name, .slice an ln cn, .slice ak lk ck] 27)) := (Below.refl _ _).alloc (Nat.le_refl _) _
      have htb : (wo.alloc (.cells #[.int .i64 ts[k].kind, .string ts[k].name, .slice an ln cn, .slice ak lk ck] 27)).heap[wo.heap.size]? = some (.cells #[.int .i64 ts[k].kind, .string ts[k].name, .slice an ln cn, .slice ak lk ck] 27 (0, 0)) := heap_alloc_new wo _
      have hbu : Ty.bulk n ts[k] ≤ 274877906944 := by
        have h1 := kid_bulk n ts k hlt
        have h2 := HBK.out
        unfold rowBulk at h2
        omega
      have HT0 := specTypeOk n _ ts[k] (wo.alloc (.cells #[.int .i64 ts[k].kind, .string ts[k].name, .slice an ln cn, .slice ak lk ck] 27)) (hta.below (hbe.trans (hbx.mono hbe.size))) hbu
      have HTA : Hid (type_of% hta) := hta
      have hk0 : (0 : Int) ≤ (k : Int) := by omega
      have hk1 : (k : Int) < (ts.length : Int) := by omega
      have hzo : (wo.alloc (.cells #[.int .i64 ts[k].kind, .string ts[k].name, .slice an ln cn, .slice ak lk ck] 27)).heap.size = wo.heap.size + 1 := by simp
      by_cases hr : Right n ts[k] 12
      · rw [decide_eq_true hr] at HT0
        have HT : Hid (type_of% HT0) := HT0
        clear HT0 a0 a1 a2 a3 hta
        obtain ⟨kd, hkd⟩ : ∃ kd, kd = ts[k].kind := ⟨_, rfl⟩
        obtain ⟨nm, hnm⟩ : ∃ nm, nm = ts[k].name := ⟨_, rfl⟩
        have HKD : Hid (type_of% hkd) := hkd
        have HNM : Hid (type_of% hnm) := hnm
        rw [← hkd] at A0 HT htb hbx hzo
        rw [← hnm] at A1 HT htb hbx hzo
        have HTA2 : Hid (TyAt w n [.int .i64 kd, .string nm, .slice an ln cn, .slice ak lk ck] ts[k]) := by rw [HKD.out, HNM.out]; exact HTA.out
        clear hkd hnm HTA
        go_wp2_with fail
        refine HT.out.mono ?_
        rintro e w2 ⟨rfl, hb2⟩
        have hbo2 : Below wo.heap.size wo w2 := hbx.trans (hb2.mono (by omega))
        have hbw2 : Below w.heap.size w w2 := hbe.trans (hbo2.mono hbe.size)
        have htb2 := (hb2.block wo.heap.size (by omega)).trans htb
        have hbox2 := (hbo2.block w.heap.size lt0).trans hbox
        obtain ⟨⟨t0, t1, t2, t3⟩, _⟩ := block4 htb2
        have hlt2 : wo.heap.size < w2.heap.size := (Array.getElem?_eq_some_iff.1 htb2).1
        have HRT2 : Hid (∀ q ∈ ts.take (k + 1), Right n q 12) := fun q hq => by
          rw [List.take_succ_eq_append_getElem hlt, List.mem_append, List.mem_singleton] at hq
          rcases hq with hq | hq
          · exact HRT.out q hq
          · subst hq; exact hr
        have hKS2 := HKS.out.below hbo2
        have hcap : S.length ≤ cap := by
          rcases hKS2.own.2 with ⟨_, h0⟩ | ⟨g', c', cur, e, _, _, q, _⟩
          · cases ‹_ = Value.slice none 0 0›
          · cases e; exact q
        have HFA : Hid (∀ x ∈ atoms (ts.take (k + 1)), Right n x 12 ∧ Ty.sized n x ∧ Ty.bulk n x ≤ 274877906944) := fun x hx => atom_facts HRT2.out (fun q hq => HSZ.out q (List.mem_of_mem_take hq)) (rowBulk_take (k + 1) HBK.out) hx
        have hSl : S.length ≤ 274877906945 := by
          have := AscS.length (ts := ts.take (k + 1)) HU.out (fun x hx => by rw [atomsB_more k hlt]; exact List.mem_append_left _ hx) HRT2.out (rowBulk_take (k + 1) HBK.out)
          omega
        have HSF : Hid (∀ s ∈ S, Right n s 12 ∧ Ty.sized n s ∧ Ty.bulk n s ≤ 274877906944) := fun s hs => HFA.out s (by rw [atomsB_more k hlt]; exact List.mem_append_left _ ((HU.out.1 s).1 hs))
        have HKS2 : Hid (type_of% hKS2) := hKS2
        clear HT hb2 hbx htb hzo hKS2 A0 A1 A2 A3 hbox HKS
        by_cases c7 : kd = 7
        · subst c7
          obtain ⟨m, rfl⟩ : ∃ m, n = m + 1 := by
            cases n with
            | zero => exact hr.elim
            | succ m => exact ⟨m, rfl⟩
          have hatk : atoms (ts.take (k + 1)) = atoms (ts.take k) ++ ts[k].kids := by rw [atomsB_more k hlt, atomsB_7 HKD.out.symm]
          obtain ⟨vn9, vk9, e9, _, _, _, _, hrow9⟩ := HTA2.out
          simp only [List.cons.injEq, and_true] at e9
          obtain ⟨_, _, _, rfl⟩ := e9
          obtain ⟨ak', ck', ek', hel9⟩ := rowOpen hrow9
          simp only [Value.slice.injEq] at ek'
          obtain ⟨rfl, rfl, rfl⟩ := ek'
          have HE9 : Hid (type_of% hel9) := hel9
          have HKF : Hid (∀ (j : Nat) (hj : j < ts[k].kids.length), Right (m + 1) ts[k].kids[j] 12 ∧ Ty.bulk (m + 1) ts[k].kids[j] ≤ 274877906944) := fun j hj => by
            have := HFA.out ts[k].kids[j] (by rw [hatk]; exact List.mem_append_right _ (List.getElem_mem hj))
            exact ⟨this.1, this.2.2⟩
          have HSL : Hid (∀ (j : Nat) (S2 : List Ty), AscS (m + 1) (atoms (ts.take k) ++ ts[k].kids.take j) S2 → S2.length ≤ 274877906945 ∧ ∀ s ∈ S2, Right (m + 1) s 12 ∧ Ty.sized (m + 1) s ∧ Ty.bulk (m + 1) s ≤ 274877906944) := fun j S2 h2 => by
            have hin : ∀ x ∈ atoms (ts.take k) ++ ts[k].kids.take j, x ∈ atoms (ts.take (k + 1)) := fun x hx => by
              rw [hatk]
              rcases List.mem_append.1 hx with hx | hx
              · exact List.mem_append_left _ hx
              · exact List.mem_append_right _ (List.mem_of_mem_take hx)
            have := AscS.length (ts := ts.take (k + 1)) h2 hin HRT2.out (rowBulk_take (k + 1) HBK.out)
            exact ⟨by omega, fun s hs => HFA.out s (hin s ((h2.1 s).1 hs))⟩
          have HUE : Hid (∀ S2, AscS (m + 1) (atoms (ts.take k) ++ ts[k].kids.take ts[k].kids.length) S2 → UnionS (m + 1) (ts.take (k + 1)) S2) := fun S2 h2 => AscS.eq h2 (by rw [List.take_length, hatk])
          have hU0 : AscS (m + 1) (atoms (ts.take k) ++ ts[k].kids.take 0) S := AscS.eq HU.out (by simp)
          have HAN : Hid (type_of% (anyIn_more ts k hlt)) := anyIn_more ts k hlt
          have hkl9 : ts[k].kids.length ≤ 274877906944 := by
            have hbb : Ty.bulk (m + 1) ts[k] = ts[k].name.size + (ts[k].names.length + Ty.textsBulk ts[k].names) + (ts[k].kids.length + (ts[k].kids.map (Ty.bulk m)).sum) := rfl
            omega
          have hKS9 := HKS2.out
          have hU9 : Hid (type_of% hU0) := hU0
          clear hel9 hrow9 hatk HU HSF HKS2 HTA2 HFA hr HNM hbu HEL HSZ HBK hU0
          generalize ts[k].kids = ks at *
          cases han : anyIn (ts.take k) with
          | true =>
            rw [han] at HAN
            clear han
            go_wp2_with fail
            go_loopw [4, 8] (fun v i wr => ∃ (j : Nat) (S2 : List Ty) (ls2 : List Lay) (g2 cap2 : Nat), j ≤ ks.length ∧ v = .slice (some ⟨g2, 0, none⟩) S2.length cap2 ∧ i = .int .i64 j ∧ AscS (m + 1) (atoms (ts.take k) ++ ks.take j) S2 ∧ KidsS wr (w.heap.size + 1) (m + 1) g2 cap2 S2 ls2 ∧ Below w2.heap.size w2 wr) (fun _ i _ => ks.length - (intOf i).toNat)
            case atStart => exact ⟨0, S, ls, g, cap, Nat.zero_le _, rfl, rfl, hU9.out, hKS9, Below.refl _ _⟩
            case round =>
              obtain ⟨j, S2, ls2, g2, cap2, hj, rfl, rfl, hU2, hKS2, hb2⟩ := hrel
              have u3 := (hb2.cell (p := ⟨wo.heap.size, 3, none⟩) hlt2).trans t3
              have hbwr : Below w.heap.size w wr := hbw2.trans (hb2.mono hbw2.size)
              have HU2 : Hid (type_of% hU2) := hU2
              have HK2 : Hid (type_of% hKS2) := hKS2
              by_cases hjl : j < ks.length
              · obtain ⟨b9, off9, y0, y1, y2, y3, rfl, hb9, hty, z0, z1, z2, z3⟩ := HE9.out j hjl
                obtain ⟨an9, ln9, cn9, ak9, lk9, ck9, e⟩ := hty.shape
                simp only [List.cons.injEq, and_true] at e
                obtain ⟨rfl, rfl, rfl, rfl⟩ := e
                have Z0 := (hbwr.cell (p := ⟨b9, off9 + j * 4, none⟩) hb9).trans z0
                have Z1 := (hbwr.cell (p := ⟨b9, off9 + j * 4 + 1, none⟩) hb9).trans z1
                have Z2 := (hbwr.cell (p := ⟨b9, off9 + j * 4 + 2, none⟩) hb9).trans z2
                have Z3 := (hbwr.cell (p := ⟨b9, off9 + j * 4 + 3, none⟩) hb9).trans z3
                have hcap2 : S2.length ≤ cap2 := by
                  rcases hKS2.own.2 with ⟨e0, h0⟩ | ⟨g', c', cur, e, _, _, q, _⟩
                  · cases e0
                  · cases e; exact q
                obtain ⟨hs1, hs2⟩ := HSL.out j S2 hU2
                obtain ⟨hf1, hf2⟩ := HKF.out j hjl
                have HADD : Hid (type_of% (specAdd (w.heap.size + 1) (m + 1) g2 cap2 S2 ls2 _ ks[j] wr hKS2 (by have := hbwr.size; have := hb2.size; omega) hcap2 ((hty.below hbwr).mono (Nat.le_succ _)) hf1 hf2 hU2.2 hs2 hs1)) := specAdd (w.heap.size + 1) (m + 1) g2 cap2 S2 ls2 _ ks[j] wr hKS2 (by have := hbwr.size; have := hb2.size; omega) hcap2 ((hty.below hbwr).mono (Nat.le_succ _)) hf1 hf2 hU2.2 hs2 hs1
                have HUM : Hid (∀ S', (∀ x, x ∈ S' ↔ x = ks[j] ∨ x ∈ S2) → (S'.Pairwise fun a b => lessB (Ty.text (m + 1) a) (Ty.text (m + 1) b)) → AscS (m + 1) (atoms (ts.take k) ++ ks.take (j + 1)) S') := fun S' h1 h2 => AscS.eq (AscS.more HU2.out h1 h2) (by rw [List.take_succ_eq_append_getElem hjl, List.append_assoc])
                have hj0 : (0 : Int) ≤ (j : Int) := by omega
                have hj1 : (j : Int) < (ks.length : Int) := by omega
                clear z0 z1 z2 z3 hty hU2 hKS2 HU2 HK2 hs1 hs2 hf1 hf2 HE9 HSL HKF HUE hU9 hKS9
                generalize ks[j].kind = kd9 at *
                generalize ks[j].name = nm9 at *
                go_wp2_with fail
                refine HADD.out.mono ?_
                rintro e w3 ⟨g', cap', S', ls', rfl, hK3, hm3, hp3, hb3⟩
                have HK3 : Hid (type_of% hK3) := hK3
                have HU3 : Hid (type_of% (HUM.out S' hm3 hp3)) := HUM.out S' hm3 hp3
                have hb23 : Below w2.heap.size w2 w3 := hb2.trans (hb3.mono hb2.size)
                clear hK3 hm3 hp3 HADD HUM hb3 Z0 Z1 Z2 Z3 u3
                go_wp2_with fail
                go_roundw
                case rel => exact ⟨j + 1, S', ls', g', cap', by omega, rfl, by go_num, HU3.out, HK3.out, hb23⟩
                case measure => simp [intOf]; omega
              · have hje : j = ks.length := by omega
                have HU3 : Hid (type_of% (HUE.out S2 (by rw [← hje]; exact hU2))) := HUE.out S2 (by rw [← hje]; exact hU2)
                have hbox3 := (hb2.block w.heap.size (by omega)).trans hbox2
                have hjn : ¬ (j : Int) < (ks.length : Int) := by omega
                clear hU2 hKS2 HU2 hje HE9 HSL HKF HUE hU9 hKS9
                go_wp2_with fail
                go_roundw
                case rel => exact ⟨k + 1, S2, ls2, g2, cap2, by omega, rfl, by rw [HAN.out]; first | rfl | simp [← HKD.out], by go_num, HRT2.out, HU3.out, HK2.out, hbox3, hbwr⟩
                case measure => simp [intOf]; omega
          | false =>
            rw [han] at HAN
            clear han
            go_wp2_with fail
            go_loopw [4, 8] (fun v i wr => ∃ (j : Nat) (S2 : List Ty) (ls2 : List Lay) (g2 cap2 : Nat), j ≤ ks.length ∧ v = .slice (some ⟨g2, 0, none⟩) S2.length cap2 ∧ i = .int .i64 j ∧ AscS (m + 1) (atoms (ts.take k) ++ ks.take j) S2 ∧ KidsS wr (w.heap.size + 1) (m + 1) g2 cap2 S2 ls2 ∧ Below w2.heap.size w2 wr) (fun _ i _ => ks.length - (intOf i).toNat)
            case atStart => exact ⟨0, S, ls, g, cap, Nat.zero_le _, rfl, rfl, hU9.out, hKS9, Below.refl _ _⟩
            case round =>
              obtain ⟨j, S2, ls2, g2, cap2, hj, rfl, rfl, hU2, hKS2, hb2⟩ := hrel
              have u3 := (hb2.cell (p := ⟨wo.heap.size, 3, none⟩) hlt2).trans t3
              have hbwr : Below w.heap.size w wr := hbw2.trans (hb2.mono hbw2.size)
              have HU2 : Hid (type_of% hU2) := hU2
              have HK2 : Hid (type_of% hKS2) := hKS2
              by_cases hjl : j < ks.length
              · obtain ⟨b9, off9, y0, y1, y2, y3, rfl, hb9, hty, z0, z1, z2, z3⟩ := HE9.out j hjl
                obtain ⟨an9, ln9, cn9, ak9, lk9, ck9, e⟩ := hty.shape
                simp only [List.cons.injEq, and_true] at e
                obtain ⟨rfl, rfl, rfl, rfl⟩ := e
                have Z0 := (hbwr.cell (p := ⟨b9, off9 + j * 4, none⟩) hb9).trans z0
                have Z1 := (hbwr.cell (p := ⟨b9, off9 + j * 4 + 1, none⟩) hb9).trans z1
                have Z2 := (hbwr.cell (p := ⟨b9, off9 + j * 4 + 2, none⟩) hb9).trans z2
                have Z3 := (hbwr.cell (p := ⟨b9, off9 + j * 4 + 3, none⟩) hb9).trans z3
                have hcap2 : S2.length ≤ cap2 := by
                  rcases hKS2.own.2 with ⟨e0, h0⟩ | ⟨g', c', cur, e, _, _, q, _⟩
                  · cases e0
                  · cases e; exact q
                obtain ⟨hs1, hs2⟩ := HSL.out j S2 hU2
                obtain ⟨hf1, hf2⟩ := HKF.out j hjl
                have HADD : Hid (type_of% (specAdd (w.heap.size + 1) (m + 1) g2 cap2 S2 ls2 _ ks[j] wr hKS2 (by have := hbwr.size; have := hb2.size; omega) hcap2 ((hty.below hbwr).mono (Nat.le_succ _)) hf1 hf2 hU2.2 hs2 hs1)) := specAdd (w.heap.size + 1) (m + 1) g2 cap2 S2 ls2 _ ks[j] wr hKS2 (by have := hbwr.size; have := hb2.size; omega) hcap2 ((hty.below hbwr).mono (Nat.le_succ _)) hf1 hf2 hU2.2 hs2 hs1
                have HUM : Hid (∀ S', (∀ x, x ∈ S' ↔ x = ks[j] ∨ x ∈ S2) → (S'.Pairwise fun a b => lessB (Ty.text (m + 1) a) (Ty.text (m + 1) b)) → AscS (m + 1) (atoms (ts.take k) ++ ks.take (j + 1)) S') := fun S' h1 h2 => AscS.eq (AscS.more HU2.out h1 h2) (by rw [List.take_succ_eq_append_getElem hjl, List.append_assoc])
                have hj0 : (0 : Int) ≤ (j : Int) := by omega
                have hj1 : (j : Int) < (ks.length : Int) := by omega
                clear z0 z1 z2 z3 hty hU2 hKS2 HU2 HK2 hs1 hs2 hf1 hf2 HE9 HSL HKF HUE hU9 hKS9
                generalize ks[j].kind = kd9 at *
                generalize ks[j].name = nm9 at *
                go_wp2_with fail
                refine HADD.out.mono ?_
                rintro e w3 ⟨g', cap', S', ls', rfl, hK3, hm3, hp3, hb3⟩
                have HK3 : Hid (type_of% hK3) := hK3
                have HU3 : Hid (type_of% (HUM.out S' hm3 hp3)) := HUM.out S' hm3 hp3
                have hb23 : Below w2.heap.size w2 w3 := hb2.trans (hb3.mono hb2.size)
                clear hK3 hm3 hp3 HADD HUM hb3 Z0 Z1 Z2 Z3 u3
                go_wp2_with fail
                go_roundw
                case rel => exact ⟨j + 1, S', ls', g', cap', by omega, rfl, by go_num, HU3.out, HK3.out, hb23⟩
                case measure => simp [intOf]; omega
              · have hje : j = ks.length := by omega
                have HU3 : Hid (type_of% (HUE.out S2 (by rw [← hje]; exact hU2))) := HUE.out S2 (by rw [← hje]; exact hU2)
                have hbox3 := (hb2.block w.heap.size (by omega)).trans hbox2
                have hjn : ¬ (j : Int) < (ks.length : Int) := by omega
                clear hU2 hKS2 HU2 hje HE9 HSL HKF HUE hU9 hKS9
                go_wp2_with fail
                go_roundw
                case rel => exact ⟨k + 1, S2, ls2, g2, cap2, by omega, rfl, by rw [HAN.out]; first | rfl | simp [← HKD.out], by go_num, HRT2.out, HU3.out, HK2.out, hbox3, hbwr⟩
                case measure => simp [intOf]; omega
        · have c7b : (kd != 7) = true := by rw [bne_iff_ne]; exact c7
          have hatk : atoms (ts.take (k + 1)) = atoms (ts.take k) ++ [ts[k]] := by rw [atomsB_more k hlt, atomsB_1 (by rw [← HKD.out]; exact c7)]
          have HADD : Hid (type_of% (specAdd (w.heap.size + 1) n g cap S ls _ ts[k] w2 HKS2.out (by have := hbw2.size; omega) hcap (HTA2.out.below hbw2) hr hbu HU.out.2 HSF.out hSl)) := specAdd (w.heap.size + 1) n g cap S ls _ ts[k] w2 HKS2.out (by have := hbw2.size; omega) hcap (HTA2.out.below hbw2) hr hbu HU.out.2 HSF.out hSl
          have HUM : Hid (∀ S', (∀ x, x ∈ S' ↔ x = ts[k] ∨ x ∈ S) → (S'.Pairwise fun a b => lessB (Ty.text n a) (Ty.text n b)) → UnionS n (ts.take (k + 1)) S') := fun S' h1 h2 => AscS.eq (AscS.more HU.out h1 h2) hatk.symm
          have HAN : Hid (type_of% (anyIn_more ts k hlt)) := anyIn_more ts k hlt
          rw [← HKD.out] at HAN
          clear hatk HU HSF HKS2 HTA2 HFA hr c7 HKD HNM hbu HEL HSZ HBK
          cases han : anyIn (ts.take k) with
          | true =>
            rw [han] at HAN
            clear han
            go_wp2_with fail
            refine HADD.out.mono ?_
            rintro e w3 ⟨g', cap', S', ls', rfl, hK3, hm3, hp3, hb3⟩
            have hbw3 : Below w.heap.size w w3 := hbw2.trans (hb3.mono hbw2.size)
            have hbox3 := (hb3.block w.heap.size (by omega)).trans hbox2
            have HK3 : Hid (type_of% hK3) := hK3
            have HU3 : Hid (type_of% (HUM.out S' hm3 hp3)) := HUM.out S' hm3 hp3
            clear hK3 hm3 hp3 HADD HUM hb3 t0 t1 t2 t3 hbox2 htb2
            go_wp2_with fail
            go_roundw
            case rel => exact ⟨k + 1, S', ls', g', cap', by omega, rfl, by rw [HAN.out]; simp, by go_num, HRT2.out, HU3.out, HK3.out, hbox3, hbw3⟩
            case measure => simp [intOf]; omega
          | false =>
            rw [han] at HAN
            clear han
            go_wp2_with fail
            refine HADD.out.mono ?_
            rintro e w3 ⟨g', cap', S', ls', rfl, hK3, hm3, hp3, hb3⟩
            have hbw3 : Below w.heap.size w w3 := hbw2.trans (hb3.mono hbw2.size)
            have hbox3 := (hb3.block w.heap.size (by omega)).trans hbox2
            have HK3 : Hid (type_of% hK3) := hK3
            have HU3 : Hid (type_of% (HUM.out S' hm3 hp3)) := HUM.out S' hm3 hp3
            clear hK3 hm3 hp3 HADD HUM hb3 t0 t1 t2 t3 hbox2 htb2
            go_wp2_with fail
            go_roundw
            case rel => exact ⟨k + 1, S', ls', g', cap', by omega, rfl, by rw [HAN.out]; simp, by go_num, HRT2.out, HU3.out, HK3.out, hbox3, hbw3⟩
            case measure => simp [intOf]; omega
      · rw [decide_eq_false hr] at HT0
        have HT : Hid (type_of% HT0) := HT0
        have HA : Hid (UAns n ts (.mk 0 ⟨#[]⟩ [] []) false) := .inl ⟨rfl, rfl, .inr fun h => hr (h _ (List.getElem_mem hlt))⟩
        clear HT0 a0 a1 a2 a3 hta hr HU HKS HEL HSZ HBK HTA
        generalize ts[k].kind = kd at *
        generalize ts[k].name = nm at *
        go_wp2_with fail
        refine HT.out.mono ?_
        rintro e w2 ⟨rfl, hb2⟩
        have hbo2 : Below wo.heap.size wo w2 := hbx.trans (hb2.mono (by omega))
        have hbw2 : Below w.heap.size w w2 := hbe.trans (hbo2.mono hbe.size)
        have hbox2 := (hbo2.block w.heap.size lt0).trans hbox
        obtain ⟨⟨rc0, rc1, rc2, rc3⟩, rf⟩ := block4 hbox2
        have rf0 := rf 0
        have rf1 := rf 1
        have rf2 := rf 2
        have rf3 := rf 3
        clear HT hb2 hbx htb hzo A0 A1 A2 A3 rf
        go_wp2_with fail
        refine ret_unS rfl rfl (put4T fun j hj => ?_) ⟨.mk (.slice none 0 0) (.slice none 0 0) [], .mk 0 ⟨#[]⟩ [] [], false, rfl, HA.out, plainLayU, put_below hbw2 (Nat.le_refl _)⟩
        match j, hj with
        | 0, _ => rw [rc0]; rfl
        | 1, _ => rw [rc1]; rfl
        | 2, _ => rw [rc2]; rfl
        | 3, _ => rw [rc3]; rfl
    · have hke : ts.take k = ts := List.take_of_length_le (by omega)
      have hkn : ¬ (k : Int) < (ts.length : Int) := by omega
      have hbo : Below wo.heap.size wo (wo.alloc (.cells #[.int .i64 7, .string ⟨#[]⟩, .slice none 0 0, .slice (some ⟨g, 0, none⟩) S.length cap] 27)) := (Below.refl _ _).alloc (Nat.le_refl _) _
      have hbw1 : Below w.heap.size w (wo.alloc (.cells #[.int .i64 7, .string ⟨#[]⟩, .slice none 0 0, .slice (some ⟨g, 0, none⟩) S.length cap] 27)) := hbe.trans (hbo.mono hbe.size)
      have hr1 := (hbo.block w.heap.size lt0).trans hbox
      have hK1 := HKS.out.below hbo
      have hRT := HRT.out
      have hU := HU.out
      rw [hke] at hRT hU
      have hbb := hU.bulk hRT
      have hSl : S.length ≤ 274877906944 := by have := HBK.out; unfold rowBulk at this; omega
      have HSF : Hid (∀ s ∈ S, Ty.sized n s) := fun s hs => (atom_facts hRT HSZ.out HBK.out ((hU.1 s).1 hs)).2.1
      have hob : (wo.alloc (.cells #[.int .i64 7, .string ⟨#[]⟩, .slice none 0 0, .slice (some ⟨g, 0, none⟩) S.length cap] 27)).heap[wo.heap.size]? = some (.cells #[.int .i64 7, .string ⟨#[]⟩, .slice none 0 0, .slice (some ⟨g, 0, none⟩) S.length cap] 27 (0, 0)) := heap_alloc_new wo _
      have hzo : (wo.alloc (.cells #[.int .i64 7, .string ⟨#[]⟩, .slice none 0 0, .slice (some ⟨g, 0, none⟩) S.length cap] 27)).heap.size = wo.heap.size + 1 := by simp
      generalize hW1 : (wo.alloc (.cells #[.int .i64 7, .string ⟨#[]⟩, .slice none 0 0, .slice (some ⟨g, 0, none⟩) S.length cap] 27)) = W1 at *
      have HZO : Hid (W1.heap.size = wo.heap.size + 1) := hzo
      clear hzo
      rw [hke]
      cases han : anyIn ts with
      | true =>
        have HA : Hid (UAns n ts (.mk 3 ⟨#[]⟩ [] []) true) := uspec_any hRT (anyIn_yes han)
        obtain ⟨⟨rc0, rc1, rc2, rc3⟩, rf⟩ := block4 hr1
        have rf0 := rf 0
        have rf1 := rf 1
        have rf2 := rf 2
        have rf3 := rf 3
        clear han hRT hU hbb HSF hK1 HRT HU HKS HEL HSZ HBK hbo hr1 rf hbox hke hob
        go_wp2_with fail
        refine ret_unS rfl rfl (put4T fun j hj => ?_) ⟨.mk (.slice none 0 0) (.slice none 0 0) [], .mk 3 ⟨#[]⟩ [] [], true, rfl, HA.out, plainLayU, put_below hbw1 (Nat.le_refl _)⟩
        match j, hj with
        | 0, _ => rw [rc0]; rfl
        | 1, _ => rw [rc1]; rfl
        | 2, _ => rw [rc2]; rfl
        | 3, _ => rw [rc3]; rfl
      | false =>
        have hn3 := anyIn_no han
        by_cases h1 : S.length = 1
        · have h1i : ((S.length : Int) == 1) = true := by rw [beq_iff_eq]; omega
          have h1l : (0 : Int) < (S.length : Int) := by omega
          have hS0 : 0 < S.length := by omega
          have hls0 : 0 < ls.length := by have := hK1.len; omega
          have HA : Hid (UAns n ts S[0] true) := uspec_one hRT hn3 hU (by
            match S, h1 with
            | [e], _ => rfl)
          have hl0 := hK1.lay 0 hls0 hS0
          have hta := hl0.1.at (HSF.out _ (List.getElem_mem hS0))
          obtain ⟨an, ln, cn, ak, lk, ck, e⟩ := hta.shape
          have c0 := hK1.cell 0 hls0 hS0 0 (by omega)
          have c1 := hK1.cell 0 hls0 hS0 1 (by omega)
          have c2 := hK1.cell 0 hls0 hS0 2 (by omega)
          have c3 := hK1.cell 0 hls0 hS0 3 (by omega)
          rw [e] at c0 c1 c2 c3
          rw [Nat.zero_mul, Nat.zero_add] at c0 c1 c2 c3
          have HLY : Hid (LayAt W1 (n + 1) ls[0] S[0] ∧ ∀ b ∈ Lay.blocks (n + 1) ls[0], w.heap.size + 1 ≤ b) := by
            obtain ⟨q1, q2⟩ := hl0.1.up
            exact ⟨q1, fun b hb => hl0.2 b (by rw [← q2]; exact hb)⟩
          have HE : Hid (cellsK S[0] ls[0] = [.int .i64 S[0].kind, .string S[0].name, .slice an ln cn, .slice ak lk ck]) := e
          obtain ⟨⟨rc0, rc1, rc2, rc3⟩, rf⟩ := block4 hr1
          have rf0 := rf 0
          have rf1 := rf 1
          have rf2 := rf 2
          have rf3 := rf 3
          clear han hRT hU hbb HSF hK1 HRT HU HKS HEL HSZ HBK hbo hr1 rf hbox hke hob h1 hn3 hl0 hta e
          generalize S[0].kind = kd at *
          generalize S[0].name = nm at *
          go_wp2_with fail
          refine ret_unS rfl rfl (put4T fun j hj => ?_) ⟨ls[0], S[0], true, by rw [HE.out], HA.out, lay_put HLY.out (Nat.le_refl _), put_below hbw1 (Nat.le_refl _)⟩
          match j, hj with
          | 0, _ => rw [rc0]; rfl
          | 1, _ => rw [rc1]; rfl
          | 2, _ => rw [rc2]; rfl
          | 3, _ => rw [rc3]; rfl
        · have h1i : ((S.length : Int) == 1) = false := by rw [beq_eq_false_iff_ne]; omega
          obtain ⟨hyes, hno⟩ := uspec_more hRT hn3 hU h1
          have hly := hK1.union
          have hta := hly.1.at (union_sized HSF.out hSl)
          have HT0 := specTypeOk (n + 1) _ (.mk 7 ⟨#[]⟩ [] S) W1 hta (by
            have e9 : Ty.bulk (n + 1) (.mk 7 ⟨#[]⟩ [] S) = 0 + (0 + 0) + (S.length + (S.map (Ty.bulk n)).sum) := rfl
            have := HBK.out
            unfold rowBulk at this
            omega)
          have HLY : Hid (type_of% hly) := hly
          by_cases hr : Right (n + 1) (.mk 7 ⟨#[]⟩ [] S) 12
          · rw [decide_eq_true hr] at HT0
            have HT : Hid (type_of% HT0) := HT0
            have HA : Hid (type_of% (hyes hr)) := hyes hr
            obtain ⟨⟨o0, o1, o2, o3⟩, _⟩ := block4 hob
            clear han hRT hU hbb HSF hK1 HRT HU HKS HEL HSZ HBK hbo hbox hke h1 hn3 hta hly hyes hno hr HT0
            go_wp2_with fail
            refine HT.out.mono ?_
            rintro e w2 ⟨rfl, hb2⟩
            have hbw2 : Below w.heap.size w w2 := hbw1.trans (hb2.mono hbw1.size)
            have hr2 := (hb2.block w.heap.size (by have := HZO.out; omega)).trans hr1
            obtain ⟨⟨p0, p1, p2, p3⟩, _⟩ := block4 ((hb2.block wo.heap.size (by have := HZO.out; omega)).trans hob)
            have HL2 : Hid (LayAt w2 (n + 1) (.mk (.slice none 0 0) (.slice (some ⟨g, 0, none⟩) S.length cap) ls) (.mk 7 ⟨#[]⟩ [] S) ∧ ∀ b ∈ Lay.blocks (n + 1) (.mk (.slice none 0 0) (.slice (some ⟨g, 0, none⟩) S.length cap) ls), w.heap.size + 1 ≤ b) := ⟨HLY.out.1.below hb2, HLY.out.2⟩
            obtain ⟨⟨rc0, rc1, rc2, rc3⟩, rf⟩ := block4 hr2
            have rf0 := rf 0
            have rf1 := rf 1
            have rf2 := rf 2
            have rf3 := rf 3
            clear HT hb2 hr1 hr2 rf HLY o0 o1 o2 o3 hob
            go_wp2_with fail
            refine ret_unS rfl rfl (put4T fun j hj => ?_) ⟨_, _, true, rfl, HA.out, lay_put HL2.out (Nat.le_refl _), put_below hbw2 (Nat.le_refl _)⟩
            match j, hj with
            | 0, _ => rw [rc0]; rfl
            | 1, _ => rw [rc1]; rfl
            | 2, _ => rw [rc2]; rfl
            | 3, _ => rw [rc3]; rfl
          · rw [decide_eq_false hr] at HT0
            have HT : Hid (type_of% HT0) := HT0
            have HA : Hid (type_of% (hno hr)) := hno hr
            obtain ⟨⟨o0, o1, o2, o3⟩, _⟩ := block4 hob
            clear han hRT hU hbb HSF hK1 HRT HU HKS HEL HSZ HBK hbo hbox hke h1 hn3 hta hly hyes hno hr HT0
            go_wp2_with fail
            refine HT.out.mono ?_
            rintro e w2 ⟨rfl, hb2⟩
            have hbw2 : Below w.heap.size w w2 := hbw1.trans (hb2.mono hbw1.size)
            have hr2 := (hb2.block w.heap.size (by have := HZO.out; omega)).trans hr1
            obtain ⟨⟨rc0, rc1, rc2, rc3⟩, rf⟩ := block4 hr2
            have rf0 := rf 0
            have rf1 := rf 1
            have rf2 := rf 2
            have rf3 := rf 3
            clear HT hb2 hr1 hr2 rf HLY o0 o1 o2 o3 hob
            go_wp2_with fail
            refine ret_unS rfl rfl (put4T fun j hj => ?_) ⟨.mk (.slice none 0 0) (.slice none 0 0) [], .mk 0 ⟨#[]⟩ [] [], false, rfl, HA.out, plainLayU, put_below hbw2 (Nat.le_refl _)⟩
            match j, hj with
            | 0, _ => rw [rc0]; rfl
            | 1, _ => rw [rc1]; rfl
            | 2, _ => rw [rc2]; rfl
            | 3, _ => rw [rc3]; rfl

end Go.Proofs.YtjihkebafoajdaaGreatDoor
