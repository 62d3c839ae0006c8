/-
 The walk of impl.weightOf at types: how much a list of types takes, each of its types as often as it stands there.
-/
import Derived.Test.YtbojmbeopnlmiaaGreatDoorLwI
namespace Go.Proofs.YtbojmbeopnlmiaaGreatDoor
open Go.RowKit Go.Sort
theorem wt_one {A : Nat → Prop} {w : World} {e f : LE} (he : e.fits A w) (hf : f.fits A w) (h : e.ts = f.ts) : e.wt = f.wt := by
 have ends : ∀ g : LE, g.fits A w → ∀ t ∈ g.ts, Ty.ends g.n t := fun g hg t ht => by
  rcases hg with ⟨q, _⟩ | ⟨b, off, cap, _, _, _, hc⟩
  ·rw [q] at ht; simp at ht
  ·obtain ⟨j, hj, rfl⟩ := List.getElem_of_mem ht
   obtain ⟨cs, h1, _⟩ := hc j hj
   exact h1.at.ends
 unfold LE.wt rowWt
 rw [← h]
 congr 1
 exact List.map_congr_left fun t ht => wt_any (ends e he t ht) (ends f hf t (h ▸ ht))
structure WMap (D : List (KeyP × Int)) (P : List LE) : Prop where
 has : ∀ p ∈ P, lookKP D p.key = some ((p.wt : Nat) : Int)
 zero : lookKP D ⟨none, 0⟩ = none
theorem WMap.nil : WMap [] [] := ⟨fun p hp => by simp at hp, rfl⟩
theorem WMap.put {A : Nat → Prop} {w : World} {D : List (KeyP × Int)} {P : List LE} {o : LE} (h : WMap D P) (hP : ∀ p ∈ P, p.fits A w ∧ p.ts ≠ []) (ho : o.fits A w) (hn : o.ts ≠ []) : WMap (setKP D o.key ((o.wt : Nat) : Int)) (P ++ [o]) := by
 refine ⟨fun p hp => ?_, ?_⟩
 ·by_cases c : p.key = o.key
  ·rw [c, look_set_sameP]
   rcases List.mem_append.1 hp with hp | hp
   ·rw [wt_one (hP p hp).1 ho (key_one (hP p hp).1 ho (hP p hp).2 c)]
   ·rw [List.mem_singleton] at hp; rw [hp]
  ·rw [look_set_otherP D _ (Ne.symm c)]
   rcases List.mem_append.1 hp with hp | hp
   ·exact h.has p hp
   ·rw [List.mem_singleton] at hp; rw [hp] at c; exact absurd rfl c
 ·rw [look_set_otherP D _ (key_ne ho hn)]
  exact h.zero
theorem WMap.kid {A : Nat → Prop} {w : World} {root o f : LE} {D D2 : List (KeyP × Int)} {O P Q : List LE} {k : Nat} (h : WMap D2 P) (hL : Lw A w root D [] O) (hO : O = P ++ o :: Q) (hf : f.fits A w) (hk : KidAt w o k f) : (lookKP D2 f.key).getD 0 = ((f.wt : Nat) : Int) := by
 by_cases hn : f.ts = []
 ·obtain ⟨a, c, hv, _⟩ := LE.open hf
  rw [hn] at hv
  rw [LE.key_nil hv, h.zero]
  unfold LE.wt
  rw [hn]
  rfl
 ·obtain ⟨p, hp, hpk⟩ := hL.post P o Q hO k f hf hk hn
  have hpO := hL.fitO p (by rw [hO]; exact List.mem_append_left _ hp)
  rw [← hpk, h.has p hp, ← wt_one hpO.1 hf (key_one hpO.1 hf hpO.2 hpk)]
  rfl
theorem wt_take {n : Nat} {ts : List Ty} {k : Nat} (hk : k < ts.length) : rowWt n (ts.take (k + 1)) = rowWt n (ts.take k) + Ty.wt n ts[k] := by
 unfold rowWt
 rw [List.take_succ_eq_append_getElem hk, List.map_append, List.sum_append]
 simp
theorem wt_take_le (n : Nat) (ts : List Ty) (k : Nat) : rowWt n (ts.take k) ≤ rowWt n ts := by
 have : rowWt n ts = rowWt n (ts.take k) + rowWt n (ts.drop k) := by
  unfold rowWt
  rw [← List.sum_append, ← List.map_append, List.take_append_drop]
 omega
def lastW (l : List LE) : Nat := (l.getLast?.map LE.wt).getD 0
theorem lastW_snoc (l : List LE) (o : LE) : lastW (l ++ [o]) = o.wt := by simp [lastW]
structure WoM (A : Nat → Prop) (w wr : World) (M : Nat) (D : List (KeyP × Int)) (v : Value) (O : List LE) : Prop where
 map : KMapP wr M D
 low : w.heap.size ≤ M
 lowD : ∀ p ∈ D, ∀ a, p.1.place = some a → a.block < w.heap.size
 row : wr.ownsRow w.heap.size 28 1 v O.length (O.map LE.v)
 bel : Below w.heap.size w wr
theorem WoM.below {A : Nat → Prop} {w wr w2 : World} {M : Nat} {D : List (KeyP × Int)} {v : Value} {O : List LE} (h : WoM A w wr M D v O) (hb : Below wr.heap.size wr w2) : WoM A w w2 M D v O :=
 ⟨h.map.kept (hb.block M h.map.lt) h.lowD (fun b hb' => hb.block b (Nat.lt_of_lt_of_le hb' h.bel.size)), h.low, h.lowD, own_atW h.row fun g hg => hb.block g (h.row.lt g hg).2, h.bel.trans (hb.mono h.bel.size)⟩
theorem WoM.put {A : Nat → Prop} {w wr w2 : World} {M : Nat} {D : List (KeyP × Int)} {v : Value} {O : List LE} (h : WoM A w wr M D v O) {k : KeyP} {x : Int} (hk : ∀ a, k.place = some a → a.block < w.heap.size) (hm : KMapP w2 M (setKP D k x)) (hb : But M wr w2) : WoM A w w2 M (setKP D k x) v O := by
 obtain ⟨es, ck, hM⟩ := h.map.obj
 refine ⟨hm, h.low, fun p hp a ha => ?_, own_atW h.row fun g hg => hb.2.2.2.2 g fun e => ?_, h.bel.trans ⟨hb.1, hb.2.1, hb.2.2.1, Nat.le_of_eq hb.2.2.2.1.symm, fun b hb' => hb.2.2.2.2 b (by have := h.low; omega)⟩⟩
 ·rcases set_memP hp with q | q
  ·exact h.lowD p q a ha
  ·rw [q] at ha
   exact hk a ha
 ·obtain ⟨_, c, q⟩ := own_rowW h.row hg
  subst e
  rw [hM] at q
  simp at q
set_option maxHeartbeats 3200000 in
set_option maxRecDepth 100000 in
theorem implWeight (A : Nat → Prop) (root : LE) (w : World) (hA : ∀ b, A b → b < w.heap.size) (hf : root.fits A w) (hn : root.ts ≠ []) (hw : root.wt ≤ 1000000000) (hc : root.cost ≤ 1000000000) :
  Calls Tryz.prog 42 #[root.v, .func (.func 43) #[] #[], .func (.func 44) #[] #[]] w fun e w' => e = .returned (.int .i64 ((root.wt : Nat) : Int)) ∧ Below w.heap.size w w' := by
 have hmm := @run_makeMap Tryz.prog
 obtain ⟨a0, cap0, hv0, _⟩ := LE.open hf
 have HF0 := implFew A root w hA hf hw hc
 rw [hv0] at HF0 ⊢
 have HF : Hid (type_of% HF0) := HF0
 have HLS : Hid (∀ wx : World, Below w.heap.size w wx → Calls Tryz.prog 68 #[.slice a0 root.ts.length cap0, .func (.func 44) #[] #[]] wx fun e w' => ∃ (D : List (KeyP × Int)) (vO : Value) (O : List LE), e = .returned (.tuple #[vO, .bool false]) ∧ Lw A wx root D [] O ∧ w'.ownsRow wx.heap.size 28 1 vO O.length (O.map LE.v) ∧ O.length ≤ 2000000000 ∧ Below wx.heap.size wx w') := fun wx hx => by
  have hsame : SameOn A w wx := fun b hb => hx.block b (hA b hb)
  have hfx : root.fits A wx := RowR.same hf hsame fun cs t _ q => q.same hsame
  have := implLists A root wx (fun b hb => Nat.lt_of_lt_of_le (hA b hb) hx.size) hfx hn hc
  rw [hv0] at this
  refine this.mono ?_
  rintro e w' ⟨M, D, vS, vO, O, rfl, h1, h2, h3⟩
  exact ⟨D, vO, O, rfl, h1, h2.out, h3, h2.bel⟩
 have HA : Hid (type_of% hA) := hA
 have HFI : Hid (type_of% hf) := hf
 have HNN : Hid (type_of% hn) := hn
 obtain ⟨TW, hTW⟩ : ∃ TW, TW = root.wt := ⟨_, rfl⟩
 rw [← hTW] at HF hw ⊢
 have HTW : Hid (type_of% hTW) := hTW
 clear HF0 hf hn hA hTW hc
 go_enter Tryz.func42, Tryz.ntmps42
 go_wp2_with fail
 refine HF.out.mono ?_
 rintro e w2 ⟨hres, hb2⟩
 clear HF
 rcases hres with rfl | rfl
 ·go_wp2_with fail
  go_ret
  exact ⟨rfl, hb2⟩
 ·have HL2 : Hid (type_of% (HLS.out w2 hb2)) := HLS.out w2 hb2
  clear HLS
  go_wp2_with fail
  refine HL2.out.mono ?_
  rintro e w3 ⟨D, vO, O, rfl, hL, hrow, hOl, hb3⟩
  clear HL2
  obtain ⟨ao, co, hvo⟩ := own_sliceW hrow
  subst hvo
  have hz2 := hb2.size
  have hz3 := hb3.size
  have hb23 : Below w.heap.size w w3 := hb2.trans (hb3.mono hz2)
  have hrow4 := hrow.alloc (.map #[] 0)
  have hb4 : Below w.heap.size w (w3.alloc (.map #[] 0)) := hb23.alloc hb23.size _
  have hm4 : KMapP (w3.alloc (.map #[] 0)) w3.heap.size [] := KMapP.made (MapKept.heap_alloc w3 (.map #[] 0)).1
  have HL : Hid (type_of% hL) := hL
  obtain ⟨NO, hNO⟩ : ∃ NO, NO = O.length := ⟨_, rfl⟩
  rw [← hNO] at hrow4 hOl ⊢
  have HNO : Hid (O.length = NO) := hNO.symm
  have HR4 : Hid (type_of% hrow4) := hrow4
  have HM4 : Hid (type_of% hm4) := hm4
  have HA2 : Hid (∀ b, A b → b < w2.heap.size) := fun b hb => Nat.lt_of_lt_of_le (HA.out b hb) hz2
  have hb4' : Below w2.heap.size w2 (w3.alloc (.map #[] 0)) := hb3.alloc hz3 _
  have HB9 : Hid (∀ wx : World, Below w2.heap.size w2 wx → Below w.heap.size w wx) := fun wx hx => hb2.trans (hx.mono hz2)
  have HW1 : Hid (∀ o ∈ O, o.wt ≤ 1000000000) := fun o ho => by have := HL.out.small.2 o ho; have h9 := HTW.out; omega
  have HEND : Hid (lastW O = TW) := by
   obtain ⟨P, hP⟩ := HL.out.last (.inl rfl)
   show _ = _
   rw [hP, lastW_snoc]
   exact HTW.out.symm
  clear hL hrow hrow4 hm4 hNO hb4 hb23
  go_wp2_with fail
  generalize hM9 : w3.heap.size = M at *
  have hMl : w2.heap.size ≤ M := by omega
  clear hM9
  go_loopw [12, 35] (fun s12 i wr => ∃ (k wt : Nat) (D2 : List (KeyP × Int)), k ≤ NO ∧ i = .int .i64 k ∧ s12 = .int .i64 wt ∧ wt = lastW (O.take k) ∧ WoM A w2 wr M D2 (.slice ao NO co) O ∧ WMap D2 (O.take k)) (fun _ i _ => NO - (intOf i).toNat)
  case atStart => exact ⟨0, 0, [], Nat.zero_le _, rfl, rfl, rfl, ⟨HM4.out, hMl, fun p hp => by simp at hp, by rw [HNO.out]; exact HR4.out, hb4'⟩, WMap.nil⟩
  case round =>
   clear HR4 HM4 hb4'
   obtain ⟨k, wt, D2, hk, rfl, rfl, hwt, hM, hWM⟩ := hrel
   obtain ⟨wo, rfl⟩ : ∃ wo, wo = wr := ⟨_, rfl⟩
   have HWT : Hid (type_of% hwt) := hwt
   have HM : Hid (type_of% hM) := hM
   have HWM : Hid (type_of% hWM) := hWM
   clear hwt hWM
   by_cases hlt : k < NO
   ·have hkO : k < O.length := by rw [HNO.out]; exact hlt
    obtain ⟨e, he⟩ : ∃ e, e = O[k] := ⟨_, rfl⟩
    have hemem : e ∈ O := by rw [he]; exact List.getElem_mem hkO
    obtain ⟨hfe, hne⟩ := HL.out.fitO e hemem
    obtain ⟨ae, ce, hve, hop⟩ := LE.open hfe
    have hsplit : O = O.take k ++ e :: O.drop (k + 1) := by
     rw [he, ← List.drop_eq_getElem_cons hkO, List.take_append_drop]
    have htake : O.take (k + 1) = O.take k ++ [e] := by rw [he, List.take_succ_eq_append_getElem hkO]
    have ctop : ∃ g, ao = some ⟨g, 0, none⟩ ∧ wo.cell? ⟨g, k, none⟩ = some (.slice ae e.ts.length ce) := by
     obtain ⟨g, cap, hv, _⟩ := own_posW hM.row (by omega)
     simp only [Value.slice.injEq] at hv
     refine ⟨g, hv.1, ?_⟩
     have h0 := hM.row.cells (g := g) (by rw [hv.1]; rfl) k (.slice ae e.ts.length ce) (by rw [List.getElem?_map, List.getElem?_eq_getElem hkO, ← he, Option.map_some, hve])
     have ea : ((⟨g, 0, none⟩ : Addr).add k) = ⟨g, k, none⟩ := by
      cases k with
      | zero => rfl
      | succ n => simp [Addr.add]
     rw [ea] at h0
     exact h0
    obtain ⟨g, rfl, ctop⟩ := ctop
    have hew : e.wt ≤ 1000000000 := HW1.out e hemem
    have hel : e.ts.length ≤ 1000000000 := by
     have h9 := kids_wt hfe
     have h8 : e.wt = rowWt e.n e.ts := rfl
     omega
    have HPE : Hid (∀ wx : World, Calls Tryz.prog 69 #[.slice ae e.ts.length ce] wx fun e9 w' => e9 = .returned (.agg #[.pointer e.key.place, .int .i64 e.key.count]) ∧ Below wx.heap.size wx w') := fun wx => by
     clear ctop hsplit htake hop hemem he
     obtain ⟨v, ts, n⟩ := e
     have hv9 : v = .slice ae ts.length ce := hve
     subst hv9
     exact implPlaceKey hfe wx
    have hkey := key_rows hfe
    have hkA : ∀ a, e.key.place = some a → a.block < w2.heap.size := fun a ha => HA2.out _ (hkey.2 a ha)
    have HRW : Hid (∀ wx : World, Below w2.heap.size w2 wx → RowsOf wx e.key.place) := fun wx hx a ha => by
     obtain ⟨cur, T, q⟩ := hkey.1 a ha
     exact ⟨cur, T, (hx.block _ (hkA a ha)).trans q⟩
    have HKA : Hid (type_of% hkA) := hkA
    have HOP : Hid (type_of% hop) := hop
    have HWN : Hid (WMap (setKP D2 e.key ((e.wt : Nat) : Int)) (O.take (k + 1))) := by
     rw [htake]
     exact HWM.out.put (fun p hp => HL.out.fitO p (List.mem_of_mem_take hp)) hfe hne
    have HLW : Hid (e.wt = lastW (O.take (k + 1))) := by
     show _ = _
     rw [htake, lastW_snoc]
    have HKW : Hid (∀ j f, f.fits A w2 → KidAt w2 e j f → (lookKP D2 f.key).getD 0 = ((f.wt : Nat) : Int)) := fun j f hf hkk => HWM.out.kid HL.out hsplit hf hkk
    have HVE : Hid (type_of% hve) := hve
    have hk0i : (0 : Int) ≤ (k : Int) := by omega
    have hk1i : (k : Int) < (NO : Int) := by omega
    have HWE : Hid (e.wt = rowWt e.n e.ts) := rfl
    clear hM hfe hne hop hve hsplit htake hemem he hkey hkA HWM HWT
    go_wp2_with fail
    go_loopw [12, 41] (fun s12 i wr => ∃ j : Nat, j ≤ e.ts.length ∧ i = .int .i64 j ∧ s12 = .int .i64 ((rowWt e.n (e.ts.take j) : Nat) : Int) ∧ WoM A w2 wr M D2 (.slice (some ⟨g, 0, none⟩) NO co) O) (fun _ i _ => e.ts.length - (intOf i).toNat)
    case atStart => exact ⟨0, Nat.zero_le _, rfl, by simp [rowWt], HM.out⟩
    case round =>
     clear HM
     obtain ⟨j, hj, rfl, rfl, hMi⟩ := hrel
     obtain ⟨wi, rfl⟩ : ∃ wi, wi = wr := ⟨_, rfl⟩
     have HMI : Hid (type_of% hMi) := hMi
     have hbi := hMi.bel
     clear hMi
     by_cases hjl : j < e.ts.length
     ·obtain ⟨m, b, off, vn, vk, hm, rfl, hAb, hbc, c0, c1, c2, c3, hnm, htx, hkf⟩ := HOP.out j hjl
      have hbl : b < w2.heap.size := HA2.out b hAb
      obtain ⟨akk, ckk, hvk, hop9⟩ := LE.open hkf
      clear hop9
      have hvk' : vk = .slice akk e.ts[j].kids.length ckk := hvk
      rw [hvk'] at c3 hkf
      have hkid : KidAt w2 e j ⟨.slice akk e.ts[j].kids.length ckk, e.ts[j].kids, m⟩ := ⟨hjl, b, off, ce, HVE.out, c3, rfl, hm⟩
      have hkw := HKW.out j _ hkf hkid
      have hst := wt_take (n := e.n) hjl
      have hwk : Ty.wt e.n e.ts[j] = ownW e.ts[j] + rowWt m e.ts[j].kids := by rw [hm]; rfl
      have hle := wt_take_le e.n e.ts (j + 1)
      rw [hst, hwk] at hle
      have hE := HWE.out
      have hoW : ownW e.ts[j] ≤ 1000000000 := by omega
      have hkW : rowWt m e.ts[j].kids ≤ 1000000000 := by omega
      have hrW : rowWt e.n (e.ts.take j) ≤ 1000000000 := by omega
      have hkl8 : e.ts[j].kids.length ≤ 4000000000 := by
       have h4 : e.ts[j].kids.length ≤ rowWt m e.ts[j].kids := kids_wt hkf
       omega
      have HTWT : Hid (∀ wx : World, Below wi.heap.size wi wx → Calls Tryz.prog 43 #[.pointer (some ⟨b, off + j * 4, none⟩)] wx fun e9 w' => e9 = .returned (.int .i64 ((ownW e.ts[j] : Nat) : Int)) ∧ Below wx.heap.size wx w') := fun wx hx => by
       have hbx := hbi.trans (hx.mono hbi.size)
       exact implTypeW b (off + j * 4) e.ts[j] vn akk ckk wx ((hbx.cell (p := ⟨b, off + j * 4, none⟩) hbl).trans c0) ((hbx.cell (p := ⟨b, off + j * 4 + 1, none⟩) hbl).trans c1) ((hbx.cell (p := ⟨b, off + j * 4 + 2, none⟩) hbl).trans c2) ((hbx.cell (p := ⟨b, off + j * 4 + 3, none⟩) hbl).trans c3) (htx.at.below hbx) hoW hkl8
      have HTK : Hid (∀ wx : World, Below wi.heap.size wi wx → Calls Tryz.prog 44 #[.pointer (some ⟨b, off + j * 4, none⟩)] wx fun e9 w' => e9 = .returned (.slice akk e.ts[j].kids.length ckk) ∧ Below wx.heap.size wx w') := fun wx hx => by
       have hbx := hbi.trans (hx.mono hbi.size)
       exact implTypeKids b (off + j * 4) _ wx ((hbx.cell (p := ⟨b, off + j * 4 + 3, none⟩) hbl).trans c3)
      have HPK : Hid (∀ wx : World, Calls Tryz.prog 69 #[.slice akk e.ts[j].kids.length ckk] wx fun e9 w' => e9 = .returned (keyVP (LE.key ⟨.slice akk e.ts[j].kids.length ckk, e.ts[j].kids, m⟩)) ∧ Below wx.heap.size wx w') := fun wx => implPlaceKey hkf wx
      have hkrow := key_rows hkf
      have hlk : ∀ d os, (Instr.lookup 102 (.map (some M)) (keyVP (LE.key ⟨.slice akk e.ts[j].kids.length ckk, e.ts[j].kids, m⟩)) false).run Tryz.prog (grow (redrawn wi d) os) = .ok (.int .i64 ((rowWt m e.ts[j].kids : Nat) : Int)) (grow (redrawn wi d) os) := fun d os => by
       have hb9 := below_regrown wi d os
       have hM9 := HMI.out.below hb9
       have := run_lookup_stopP hM9.map (LE.key ⟨.slice akk e.ts[j].kids.length ckk, e.ts[j].kids, m⟩) (fun a ha => by
        obtain ⟨cur, T, q⟩ := hkrow.1 a ha
        exact ⟨cur, T, (hM9.bel.block _ (HA2.out _ (hkrow.2 a ha))).trans q⟩)
       rw [hkw] at this
       exact this
      have HST : Hid (rowWt e.n (e.ts.take (j + 1)) = rowWt e.n (e.ts.take j) + (ownW e.ts[j] + rowWt m e.ts[j].kids)) := by show _ = _; rw [hst, hwk]
      have hj0i : (0 : Int) ≤ (j : Int) := by omega
      have hj1i : (j : Int) < (e.ts.length : Int) := by omega
      clear c0 c1 c2 c3 hnm htx hkf hvk hvk' hkid hkw hst hwk hle hE hkrow hbc HOP ctop
      generalize ownW e.ts[j] = oW at *
      generalize rowWt m e.ts[j].kids = kW at *
      generalize rowWt e.n (e.ts.take j) = rW at *
      generalize hkey9 : keyVP (LE.key ⟨.slice akk e.ts[j].kids.length ckk, e.ts[j].kids, m⟩) = KV at *
      clear hkey9
      generalize e.ts[j].kids.length = kl at *
      go_wp2_with fail
      refine wp_region_quiet_below (by kernel_rfl) (by kernel_rfl) ?_
      repeat (go_big_quiet_step (first | (with_reducible exact Calls.regrown_of (HTWT.out _ (below_regrown wi _ _))) | (with_reducible exact Calls.regrown_of (HTK.out _ (below_regrown wi _ _))) | (with_reducible exact Calls.regrown_of (HPK.out _))))
      refine wpQuiet_nil ?_
      intro _ hw'
      obtain ⟨⟨dq, osq⟩, hw''⟩ := hw'
      subst hw''
      have HM5 : Hid (type_of% (HMI.out.below (below_regrown wi dq osq))) := HMI.out.below (below_regrown wi dq osq)
      clear hlk HTWT HTK HPK
      generalize grow (redrawn wi dq) osq = w5 at *
      go_wp2_with fail
      go_roundw
      case rel => exact ⟨j + 1, by omega, by go_num, by rw [HST.out]; congr 1; omega, HM5.out⟩
      case measure => simp [intOf]; omega
     ·have hje : e.ts.take j = e.ts := List.take_of_length_le (by omega)
      have HRW2 : Hid (rowWt e.n (e.ts.take j) = e.wt) := by show _ = _; rw [hje, ← HWE.out]
      clear hje
      generalize rowWt e.n (e.ts.take j) = rW at *
      go_wp2_with fail
      refine (HPE.out _).mono ?_
      rintro e9 w5 ⟨rfl, hb5⟩
      have hM5 := HMI.out.below hb5
      obtain ⟨w6, hup, hm6, hb6⟩ := run_update_stopP hM5.map e.key (HRW.out _ hM5.bel) ((rW : Nat) : Int)
      have hup' : (Instr.mapUpdate 102 (.map (some M)) (.agg #[.pointer e.key.place, .int .i64 e.key.count]) (.int .i64 ((rW : Nat) : Int))).run Tryz.prog w5 = .ok () w6 := hup
      have HM6 : Hid (type_of% (hM5.put HKA.out hm6 hb6)) := hM5.put HKA.out hm6 hb6
      clear hM5 hm6 hb6 hup hb5 HMI HPE HRW HKA
      go_wp2_with fail
      go_roundw
      case rel =>
       refine ⟨k + 1, rW, setKP D2 e.key ((rW : Nat) : Int), by omega, by go_num, rfl, ?_, HM6.out, ?_⟩
       ·rw [HRW2.out]; exact HLW.out
       ·rw [HRW2.out]; exact HWN.out
      case measure => simp [intOf]; omega
   ·have hke : O.take k = O := List.take_of_length_le (by rw [HNO.out]; omega)
    have HR : Hid (wt = TW) := by
     show _ = _
     rw [HWT.out, hke]
     exact HEND.out
    have HB : Hid (type_of% (HB9.out _ hM.bel)) := HB9.out _ hM.bel
    clear hM HWT HM HWM hke
    go_wp2_with fail
    go_ret
    exact ⟨by rw [← HR.out]; rfl, HB.out⟩
set_option maxHeartbeats 1600000 in
set_option maxRecDepth 100000 in
theorem implFewNil (a : Option Addr) (cap : Nat) (w : World) :
  Calls Tryz.prog 67 #[.slice a 0 cap, .func (.func 43) #[] #[], .func (.func 44) #[] #[]] w fun e w' => e = .returned (.tuple #[.int .i64 0, .bool true]) ∧ Below w.heap.size w w' := by
 have hB0 : Below w.heap.size w (w.alloc (.cells #[.slice a 0 cap] 28)) := (Below.refl _ _).alloc (Nat.le_refl _) _
 have hc0 : (w.alloc (.cells #[.slice a 0 cap] 28)).cell? ⟨w.heap.size, 0, none⟩ = some (.slice a 0 cap) := by
  rw [cell_of_row _ _ _ _ _ _ (MapKept.heap_alloc w _).1]
  rfl
 have HC0 : Hid (type_of% hc0) := hc0
 clear hc0
 go_enter Tryz.func67, Tryz.ntmps67
 go_wp2_with fail
 go_loopg [8, 9, 10] 1 (fun k s8 s9 s10 wr => s8 = .int .i64 0 ∧ s9 = .int .i64 0 ∧ Below w.heap.size w wr ∧ ((k = 1 ∧ s10 = .slice (some ⟨w.heap.size, 0, none⟩) 1 1 ∧ wr.cell? ⟨w.heap.size, 0, none⟩ = some (.slice a 0 cap)) ∨ (k = 0 ∧ s10 = .slice (some ⟨w.heap.size, 0, none⟩) 0 1)))
 case atStart => exact ⟨rfl, rfl, hB0, .inl ⟨rfl, rfl, HC0.out⟩⟩
 case round =>
  clear HC0 hB0
  obtain ⟨rfl, rfl, hb, h⟩ := hrel
  obtain ⟨wo, rfl⟩ : ∃ wo, wo = wr := ⟨_, rfl⟩
  rcases h with ⟨rfl, rfl, hc⟩ | ⟨rfl, rfl⟩
  ·go_wp2_with fail
   go_loopw [8, 10, 42] (fun s8 s10 i wr => s8 = .int .i64 0 ∧ s10 = .slice (some ⟨w.heap.size, 0, none⟩) 0 1 ∧ i = .int .i64 0 ∧ Below w.heap.size w wr) (fun _ _ _ _ => 0)
   case atStart => exact ⟨rfl, rfl, rfl, hb⟩
   case round =>
    obtain ⟨rfl, rfl, rfl, hb2⟩ := hrel
    clear hb hc
    go_wp2_with fail
    go_roundg 0
    case rel => exact ⟨rfl, rfl, hb2, .inr ⟨rfl, rfl⟩⟩
    case measure => decide
  ·go_wp2_with fail
   go_ret2
   exact ⟨rfl, hb⟩
set_option maxHeartbeats 1600000 in
set_option maxRecDepth 100000 in
theorem implWeightNil (a : Option Addr) (cap : Nat) (w : World) :
  Calls Tryz.prog 42 #[.slice a 0 cap, .func (.func 43) #[] #[], .func (.func 44) #[] #[]] w fun e w' => e = .returned (.int .i64 0) ∧ Below w.heap.size w w' := by
 have HF : Hid (type_of% (implFewNil a cap w)) := implFewNil a cap w
 go_enter Tryz.func42, Tryz.ntmps42
 go_wp2_with fail
 refine HF.out.mono ?_
 rintro e w2 ⟨rfl, hb2⟩
 go_wp2_with fail
 go_ret
 exact ⟨rfl, hb2⟩
theorem implPutSize0 (A : Nat → Prop) (root : LE) (w : World) (hA : ∀ b, A b → b < w.heap.size) (hf : root.fits A w) (hw : root.wt ≤ 1000000000) (hc : root.cost ≤ 1000000000) :
  Calls Tryz.prog 25 #[root.v] w fun e w' => e = .returned (.int .i64 ((root.wt : Nat) : Int)) ∧ Below w.heap.size w w' := by
 have HW : Hid (Calls Tryz.prog 42 #[root.v, .func (.func 43) #[] #[], .func (.func 44) #[] #[]] w fun e w' => e = .returned (.int .i64 ((root.wt : Nat) : Int)) ∧ Below w.heap.size w w') := by
  by_cases hn : root.ts = []
  ·obtain ⟨a0, cap0, hv0, _⟩ := LE.open hf
   have h0 : root.wt = 0 := by show rowWt root.n root.ts = 0; rw [hn, rowWt_nil]
   rw [hv0, hn, h0]
   exact implWeightNil a0 cap0 w
  ·exact implWeight A root w hA hf hn hw hc
 obtain ⟨a0, cap0, hv0, hop⟩ := LE.open hf
 rw [hv0] at HW ⊢
 clear hop hf hv0 hA hw hc
 generalize root.wt = q at *
 generalize root.ts.length = ln at *
 go_enter Tryz.func25, Tryz.ntmps25
 go_wp2_with fail
 refine HW.out.mono ?_
 rintro e w2 ⟨rfl, hb2⟩
 go_wp2_with fail
 go_ret
 exact ⟨rfl, hb2⟩
end Go.Proofs.YtbojmbeopnlmiaaGreatDoor
