/-
 The walk of spec.Reach.
-/
import Derived.Test.YtbojmbeopnlmiaaGreatDoorNamesS
namespace Go.Proofs.YtbojmbeopnlmiaaGreatDoor
open Go.RowKit
theorem look_nx {n : Nat} {es : List (ByteArray × Ty)} {nm x : ByteArray} {T : Ty} {ok : Bool} (h : LookAns es nm T ok) : namesIn (n + 1) T x ↔ Nx (n + 1) es nm x := by
 rcases h with ⟨_, j, hj, e1, e2, rfl⟩ | ⟨_, rfl, hn⟩
 ·constructor
  ·exact fun h => ⟨j, ⟨hj, e1, e2⟩, h⟩
  ·rintro ⟨i, hi, h⟩
   obtain rfl := hi.one ⟨hj, e1, e2⟩
   exact h
 ·constructor
  ·rintro ⟨u, hu, h4, _⟩
   simp [Ty.nodes] at hu
   subst hu
   simp at h4
  ·rintro ⟨i, hi, _⟩
   exact absurd hi.2.1 (hn i hi.1)
theorem held_cells {w : World} {g cap : Nat} {r : List ByteArray} (h : Held w (.slice (some ⟨g, 0, none⟩) r.length cap) r) : ∀ j (hj : j < r.length), w.cell? ⟨g, j, none⟩ = some (.string r[j]) := fun j hj => by
 rcases h.texts with ⟨e, _⟩ | ⟨g', off', c', e, hcl⟩
 ·rw [e] at hj; simp at hj
 ·simp only [Value.slice.injEq, Option.some.injEq, Addr.mk.injEq] at e
  obtain ⟨⟨rfl, rfl, _⟩, _, rfl⟩ := e
  have := hcl j hj
  rw [Nat.zero_add] at this
  exact this
set_option maxHeartbeats 3200000 in
set_option maxRecDepth 100000 in
theorem specReach (n : Nat) (vE : Value) (es : List (ByteArray × Ty)) (cs : List Value) (t : Ty) (w : World) (hE : EnvAt w (n + 1) vE es) (hT : TyAt w (n + 1) cs t) (hbk : envBulk (n + 1) es + Ty.bulk (n + 1) t ≤ 1048576) :
  Calls Tryz.prog 75 #[vE, .agg cs.toArray] w fun e w' => ∃ g cap r, e = .returned (.slice (some ⟨g, 0, none⟩) r.length cap) ∧ Held w' (.slice (some ⟨g, 0, none⟩) r.length cap) r ∧ r.length ≤ 1048577 ∧ (∀ x, x ∈ r ↔ Rch (n + 1) es t x) ∧ Below w.heap.size w w' := by
 obtain ⟨av, capv, rfl, hel⟩ := envOpen hE
 have hlen : es.length ≤ 1048576 := by unfold envBulk at hbk; omega
 have hN := all_few (n + 1) es t
 obtain ⟨an, ln, cn, ak, lk, ck, ee⟩ := hT.shape
 have hB1 : Below w.heap.size w (w.alloc (.cells cs.toArray 30)) := (Below.refl _ _).alloc (Nat.le_refl _) _
 have HT0 : Hid (type_of% (specNames (n + 1) cs t (w.alloc (.cells cs.toArray 30)) (hT.below hB1) (by have := nodes_len (n + 1) t; omega))) := specNames (n + 1) cs t _ (hT.below hB1) (by have := nodes_len (n + 1) t; omega)
 have HLU : Hid (∀ (nm : ByteArray) (wx : World), Below w.heap.size w wx → Calls Tryz.prog 100 #[.slice av es.length capv, .string nm] wx fun e w' => ∃ (T : Ty) (an : Option Addr) (ln cn : Nat) (ak : Option Addr) (lk ck : Nat) (ok : Bool), e = .returned (.tuple #[.agg #[.int .i64 T.kind, .string T.name, .slice an ln cn, .slice ak lk ck], .bool ok]) ∧ TyAt w' (n + 1) [.int .i64 T.kind, .string T.name, .slice an ln cn, .slice ak lk ck] T ∧ Ty.bulk (n + 1) T ≤ 1048576 ∧ (∀ x, namesIn (n + 1) T x ↔ Nx (n + 1) es nm x) ∧ Below wx.heap.size wx w') := fun nm wx hx => (specLookup n _ es nm wx (hE.below hx) (by omega)).mono fun e w' hh => by
  obtain ⟨l, T, ok, rfl, hla, ⟨hlay, _⟩, hb⟩ := hh
  have hta := hlay.at (look_sized hla fun j hj => by
   obtain ⟨_, _, _, _, _, _, _, _, _, q, _⟩ := hel j hj
   exact q.sized)
  obtain ⟨an, ln, cn, ak, lk, ck, e⟩ := hta.shape
  rw [e] at hta
  refine ⟨T, an, ln, cn, ak, lk, ck, ok, by rw [e], hta, look_bulk hla (by omega), fun x => look_nx hla, hb⟩
 have HSN : Hid (∀ (cs : List Value) (T : Ty) (wx : World), ∀ (h : TyAt wx (n + 1) cs T) (_hb : Ty.bulk (n + 1) T ≤ 1048576), type_of% (specNames (n + 1) cs T wx h (by have := nodes_len (n + 1) T; omega))) := fun cs T wx h hb => specNames (n + 1) cs T wx h (by have := nodes_len (n + 1) T; omega)
 have HSH : Hid (∀ r : List ByteArray, Asc r → (∀ x, x ∈ r → Rch (n + 1) es t x) → r.length ≤ 1048577) := fun r ha hr => Nat.le_trans (nodup_len (asc_nodup ha) fun x hx => rch_all (hr x hx)) (by omega)
 have HLV : Hid (∀ x, Lv (n + 1) es t (es.length + 1) x ↔ Rch (n + 1) es t x) := fun x => ⟨Lv.rch, rch_lv⟩
 clear hel hE hT hN hbk
 subst ee
 go_enter Tryz.func75, Tryz.ntmps75
 go_wp2_with fail
 refine HT0.out.mono ?_
 rintro e w2 ⟨g0, cap0, r0, rfl, hh0, hr0, hm0, hb2⟩
 have hbw2 : Below w.heap.size w w2 := hB1.trans (hb2.mono hB1.size)
 have HH0 : Hid (type_of% hh0) := hh0
 have HM0 : Hid (type_of% hm0) := hm0
 clear HT0 hB1 hb2 hh0 hm0 hr0
 go_wp2_with fail
 go_loopw [5, 6] (fun v i wr => ∃ (k g cap : Nat) (r : List ByteArray), k ≤ es.length + 1 ∧ i = .int .i64 k ∧ v = .slice (some ⟨g, 0, none⟩) r.length cap ∧ Held wr (.slice (some ⟨g, 0, none⟩) r.length cap) r ∧ (∀ x, x ∈ r ↔ Lv (n + 1) es t k x) ∧ Below w.heap.size w wr) (fun _ i _ => es.length + 1 - (intOf i).toNat)
 case atStart => exact ⟨0, _, _, r0, Nat.zero_le _, rfl, rfl, HH0.out, HM0.out, hbw2⟩
 case round =>
  clear HH0 HM0 hbw2
  obtain ⟨w3, rfl⟩ : ∃ w3, w3 = wr := ⟨_, rfl⟩
  obtain ⟨k, ga, capa, ra, hk, rfl, rfl, hha, hma, hbe⟩ := hrel
  have HHA : Hid (type_of% hha) := hha
  have HMA : Hid (type_of% hma) := hma
  have hral := HSH.out ra hha.asc fun x hx => ((hma x).1 hx).rch
  by_cases hlt : k < es.length + 1
  ·have hki : (k : Int) ≤ (es.length : Int) := by omega
   have HCA : Hid (type_of% (held_cells hha)) := held_cells hha
   clear hha hma
   go_wp2_with fail
   go_loopw [5, 8] (fun v i wm => ∃ (m g cap : Nat) (r : List ByteArray), m ≤ ra.length ∧ i = .int .i64 m ∧ v = .slice (some ⟨g, 0, none⟩) r.length cap ∧ Held wm (.slice (some ⟨g, 0, none⟩) r.length cap) r ∧ (∀ x, x ∈ r ↔ x ∈ ra ∨ ∃ j, ∃ h : j < ra.length, j < m ∧ Nx (n + 1) es ra[j] x) ∧ Below w3.heap.size w3 wm) (fun _ i _ => ra.length - (intOf i).toNat)
   case atStart => exact ⟨0, _, _, ra, Nat.zero_le _, rfl, rfl, HHA.out, fun x => ⟨.inl, fun h => by rcases h with h | ⟨_, _, h, _⟩; exact h; omega⟩, Below.refl _ _⟩
   case round =>
    clear HHA
    obtain ⟨m, g, cap, r, hm, rfl, rfl, hh, hme, hb4⟩ := hrel
    have hbw4 : Below w.heap.size w wr := hbe.trans (hb4.mono hbe.size)
    have HH : Hid (type_of% hh) := hh
    have HM : Hid (type_of% hme) := hme
    by_cases hlm : m < ra.length
    ·have C0 := (hb4.cell (p := ⟨ga, m, none⟩) (World.block_lt_of_cell? w3 ⟨ga, m, none⟩ (HCA.out m hlm))).trans (HCA.out m hlm)
     have hm0i : (0 : Int) ≤ (m : Int) := by omega
     have hm1i : (m : Int) < (ra.length : Int) := by omega
     have HRR : Hid (∀ x, x ∈ r → Rch (n + 1) es t x) := fun x hx => by
      rcases (hme x).1 hx with h | ⟨j, hj, _, h⟩
      ·exact ((HMA.out x).1 h).rch
      ·exact .step ((HMA.out _).1 (List.getElem_mem hj)).rch h
     have HRK : Hid (∀ x, Nx (n + 1) es ra[m] x → Rch (n + 1) es t x) := fun x hx => .step ((HMA.out _).1 (List.getElem_mem hlm)).rch hx
     have HMM : Hid (∀ r' : List ByteArray, (∀ x, x ∈ r' ↔ x ∈ r ∨ Nx (n + 1) es ra[m] x) → ∀ x, x ∈ r' ↔ x ∈ ra ∨ ∃ j, ∃ h : j < ra.length, j < m + 1 ∧ Nx (n + 1) es ra[j] x) := fun r' hr' x => by
      rw [hr', hme]
      constructor
      ·rintro ((h | ⟨j, hj, hjm, h⟩) | h)
       ·exact .inl h
       ·exact .inr ⟨j, hj, by omega, h⟩
       ·exact .inr ⟨m, hlm, by omega, h⟩
      ·rintro (h | ⟨j, hj, hjm, h⟩)
       ·exact .inl (.inl h)
       ·by_cases c : j = m
        ·subst c; exact .inr h
        ·exact .inl (.inr ⟨j, hj, by omega, h⟩)
     have HC : Hid (type_of% (HLU.out ra[m] wr hbw4)) := HLU.out ra[m] wr hbw4
     clear hh hme HM HLV HMA HLU
     generalize ra[m] = y at *
     go_wp2_with fail
     refine HC.out.mono ?_
     rintro e w5 ⟨T, an5, ln5, cn5, ak5, lk5, ck5, ok, rfl, hty, hTb, hnx, hb5⟩
     have hB5 : Below w5.heap.size w5 (w5.alloc (.cells #[.int .i64 T.kind, .string T.name, .slice an5 ln5 cn5, .slice ak5 lk5 ck5] 30)) := (Below.refl _ _).alloc (Nat.le_refl _) _
     have HC6 : Hid (type_of% (HSN.out _ T _ (hty.below hB5) hTb)) := HSN.out _ T _ (hty.below hB5) hTb
     have HNX : Hid (type_of% hnx) := hnx
     have hb46 := hb4.trans (hb5.mono hb4.size)
     have HH5 : Hid (Held w5 (.slice (some ⟨g, 0, none⟩) r.length cap) r) := HH.out.below hb5
     clear HC HSN hty hnx hTb hb5 HH C0 hb4 hbw4
     go_wp2_with fail
     refine HC6.out.mono ?_
     rintro e w6 ⟨gm, capm, rm, rfl, hhm, _, hmm, hb6⟩
     have hb6' : Below w5.heap.size w5 w6 := hB5.trans (hb6.mono hB5.size)
     have HH6 : Hid (Held w6 (.slice (some ⟨g, 0, none⟩) r.length cap) r) := HH5.out.below hb6'
     have hb36 : Below w3.heap.size w3 w6 := hb46.trans (hb6'.mono hb46.size)
     have HCM : Hid (type_of% (held_cells hhm)) := held_cells hhm
     have HMX : Hid (∀ x, x ∈ rm ↔ Nx (n + 1) es y x) := fun x => (hmm x).trans (HNX.out x)
     have hrml := HSH.out rm hhm.asc fun x hx => HRK.out x ((HMX.out x).1 hx)
     clear HC6 HH5 hhm hmm hb6 hb6' hb46 hB5 HNX
     go_wp2_with fail
     go_loopw [5, 12] (fun v i wr => ∃ (q g cap : Nat) (r' : List ByteArray), q ≤ rm.length ∧ i = .int .i64 q ∧ v = .slice (some ⟨g, 0, none⟩) r'.length cap ∧ Held wr (.slice (some ⟨g, 0, none⟩) r'.length cap) r' ∧ (∀ x, x ∈ r' ↔ x ∈ r ∨ x ∈ rm.take q) ∧ Below w6.heap.size w6 wr) (fun _ i _ => rm.length - (intOf i).toNat)
     case atStart => exact ⟨0, _, _, r, Nat.zero_le _, rfl, rfl, HH6.out, fun x => by simp, Below.refl _ _⟩
     case round =>
      obtain ⟨q, g3, cap3, r', hq, rfl, rfl, hheld, hmem, hb7⟩ := hrel
      by_cases hlq : q < rm.length
      ·have hg2 : gm < w6.heap.size := World.block_lt_of_cell? w6 ⟨gm, q, none⟩ (HCM.out q hlq)
       have C := (hb7.cell (p := ⟨gm, q, none⟩) hg2).trans (HCM.out q hlq)
       have hq0i : (0 : Int) ≤ (q : Int) := by omega
       have hq1i : (q : Int) < (rm.length : Int) := by omega
       obtain ⟨g4, cap4, e4, hcap4⟩ := hheld.form
       simp only [Value.slice.injEq, Option.some.injEq, Addr.mk.injEq, true_and, and_true] at e4
       obtain ⟨rfl, rfl⟩ := e4
       have hrl := HSH.out r' hheld.asc fun x hx => by
        rcases (hmem x).1 hx with h | h
        ·exact HRR.out x h
        ·exact HRK.out x ((HMX.out x).1 (List.mem_of_mem_take h))
       have HP0 := specPut g3 cap3 r' rm[q] wr hheld.texts hcap4 hrl hheld.asc
       have HP : Hid (type_of% HP0) := HP0
       have HM3 : Hid (∀ r'' : List ByteArray, (∀ x, x ∈ r'' ↔ x = rm[q] ∨ x ∈ r') → ∀ x, x ∈ r'' ↔ x ∈ r ∨ x ∈ rm.take (q + 1)) := fun r'' hr'' x => by
        rw [hr'', hmem, List.take_succ_eq_append_getElem hlq, List.mem_append, List.mem_singleton]
        constructor
        ·rintro (h | h | h)
         ·exact .inr (.inr h)
         ·exact .inl h
         ·exact .inr (.inl h)
        ·rintro (h | h | h)
         ·exact .inr (.inl h)
         ·exact .inr (.inr h)
         ·exact .inl h
       generalize rm[q] = z at *
       clear HP0 hheld hmem hcap4 HH6
       go_wp2_with fail
       refine HP.out.mono ?_
       rintro e w8 ⟨g5, cap5, r5, rfl, ht5, hc5, hl5, ha5, hm5, hb5⟩
       have HF5 : Hid (Held w8 (.slice (some ⟨g5, 0, none⟩) r5.length cap5) r5) := ⟨⟨g5, cap5, rfl, hc5⟩, ht5, ha5⟩
       have HM5 := HM3.out r5 hm5
       have HM6 : Hid (type_of% HM5) := HM5
       have hb8 : Below w6.heap.size w6 w8 := hb7.trans (hb5.mono hb7.size)
       clear ht5 hc5 ha5 hm5 HM5 hb5 HP
       go_wp2_with fail
       go_roundw
       case rel => exact ⟨q + 1, _, _, r5, by omega, by go_num, rfl, HF5.out, HM6.out, hb8⟩
       case measure => simp [intOf]; omega
      ·have hqe : q = rm.length := by omega
       have HMY := HMM.out r' fun x => by rw [hmem, hqe, List.take_of_length_le (Nat.le_refl _), HMX.out]
       have HMZ : Hid (type_of% HMY) := HMY
       have HF : Hid (type_of% hheld) := hheld
       have hb38 := hb36.trans (hb7.mono hb36.size)
       clear hmem HMY hheld HCM HH6 HRR HRK HMX
       go_wp2_with fail
       go_roundw
       case rel => exact ⟨m + 1, _, _, r', by omega, by go_num, rfl, HF.out, HMZ.out, hb38⟩
       case measure => simp [intOf]; omega
    ·have hme' : m = ra.length := by omega
     have HMZ : Hid (∀ x, x ∈ r ↔ Lv (n + 1) es t (k + 1) x) := fun x => by
      rw [HM.out]
      constructor
      ·rintro (h | ⟨j, hj, _, h⟩)
       ·exact .inl ((HMA.out x).1 h)
       ·exact .inr ⟨_, (HMA.out _).1 (List.getElem_mem hj), h⟩
      ·rintro (h | ⟨y, h1, h2⟩)
       ·exact .inl ((HMA.out x).2 h)
       ·obtain ⟨j, hj, rfl⟩ := List.getElem_of_mem ((HMA.out y).2 h1)
        exact .inr ⟨j, hj, by omega, h2⟩
     clear hh hme HM HMA HCA HLU HSN HSH HLV
     go_wp2_with fail
     go_roundw
     case rel => exact ⟨k + 1, _, _, r, by omega, by go_num, rfl, HH.out, HMZ.out, hbw4⟩
     case measure => simp [intOf]; omega
  ·obtain rfl : k = es.length + 1 := by omega
   have HALL : Hid (∀ x, x ∈ ra ↔ Rch (n + 1) es t x) := fun x => (HMA.out x).trans (HLV.out x)
   have hki : ¬ ((es.length : Int) + 1) ≤ (es.length : Int) := by omega
   clear hha hma HMA HLU HSN HSH HLV
   go_wp2_with fail
   go_ret
   exact ⟨ga, capa, ra, rfl, HHA.out, hral, HALL.out, hbe⟩
end Go.Proofs.YtbojmbeopnlmiaaGreatDoor
