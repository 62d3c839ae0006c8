/-
 The walk of spec.l08Reach.
-/
import Derived.Test.YtbojmbeopnlmiaaGreatDoorRcS
namespace Go.Proofs.YtbojmbeopnlmiaaGreatDoor
open Go.RowKit
set_option maxHeartbeats 3200000 in
set_option maxRecDepth 100000 in
theorem specReachAll (n : Nat) (vE vX : Value) (es xs : List (ByteArray × Ty)) (w : World) (hE : EnvAt w (n + 1) vE es) (hX : EnvAt w (n + 1) vX xs) (hbk : envBulk (n + 1) es + envBulk (n + 1) xs ≤ 1048576) :
  Calls Tryz.prog 50 #[vE, vX] w fun e w' => ∃ g cap r, e = .returned (.slice (some ⟨g, 0, none⟩) r.length cap) ∧ Held w' (.slice (some ⟨g, 0, none⟩) r.length cap) r ∧ r.length ≤ 1048577 ∧ (∀ x, x ∈ r ↔ ∃ e ∈ xs, Rch (n + 1) es e.2 x) ∧ Below w.heap.size w w' := by
 have hendE := hE.ends
 have hendX := hX.ends
 obtain ⟨aE, capE, rfl, helE⟩ := envOpen hE
 obtain ⟨aX, capX, rfl, helX⟩ := envOpen hX
 have hlen : xs.length ≤ 1048576 := by have : xs.length ≤ envBulk (n + 1) xs := by { unfold envBulk; omega }; omega
 have HSH : Hid (∀ r : List ByteArray, Asc r → (∀ x, x ∈ r → ∃ e ∈ xs, Rch (n + 1) es e.2 x) → r.length ≤ 1048577) := fun r ha hr => by
  have h1 := all_few (n + 1 + 1) es (fnOf xs)
  have h2 := fnOf_bulk (n + 1) xs
  have h3 := envBulk_ends hendE
  have e2 : ∀ y x, Nx (n + 1) es y x → Nx (n + 1 + 1) es y x := fun y x ⟨j, hj, k⟩ => ⟨j, hj, (names_more (hendE _ (List.getElem_mem hj.1))).2 k⟩
  have e1 : ∀ (t : Ty), Ty.ends (n + 1) t → ∀ i x, Lv (n + 1) es t i x → Lv (n + 1 + 1) es t i x := fun t ht i => by
   induction i with
   | zero => exact fun x k => (names_more ht).2 k
   | succ i ih => exact fun x k => k.imp (ih x) fun ⟨y, k1, k2⟩ => ⟨y, ih y k1, e2 y x k2⟩
  exact Nat.le_trans (nodup_len (asc_nodup ha) fun x hx => by
   obtain ⟨e, he, i, k⟩ := hr x hx
   exact rch_all ((reach_fnOf hendX).2 ⟨e, he, i, e1 _ (hendX e he) i x k⟩)) (by omega)
 have HRC : Hid (∀ k (hk : k < xs.length) (cs : List Value) (wx : World), Below w.heap.size w wx → TyAt wx (n + 1) cs xs[k].2 → Calls Tryz.prog 75 #[.slice aE es.length capE, .agg cs.toArray] wx fun e w' => ∃ g cap r, e = .returned (.slice (some ⟨g, 0, none⟩) r.length cap) ∧ Held w' (.slice (some ⟨g, 0, none⟩) r.length cap) r ∧ r.length ≤ 1048577 ∧ (∀ x, x ∈ r ↔ Rch (n + 1) es xs[k].2 x) ∧ Below wx.heap.size wx w') := fun k hk cs wx hx ht => specReach n _ es cs _ wx (hE.below hx) ht (by have := env_bulk (n + 1) xs k hk; omega)
 have HEL : Hid (type_of% helX) := helX
 clear hE hX helE helX hbk hendE hendX
 go_enter Tryz.func50, Tryz.ntmps50
 go_wp2_with fail
 go_loopw [5, 6] (fun v i wr => ∃ (k g cap : Nat) (r : List ByteArray), k ≤ xs.length ∧ i = .int .i64 k ∧ v = .slice (some ⟨g, 0, none⟩) r.length cap ∧ Held wr (.slice (some ⟨g, 0, none⟩) r.length cap) r ∧ (∀ x, x ∈ r ↔ ∃ j, ∃ h : j < xs.length, j < k ∧ Rch (n + 1) es xs[j].2 x) ∧ Below w.heap.size w wr) (fun _ i _ => xs.length - (intOf i).toNat)
 case atStart => exact ⟨0, _, _, [], Nat.zero_le _, rfl, rfl, held_none, fun x => ⟨fun h => by simp at h, fun ⟨_, _, h, _⟩ => absurd h (by omega)⟩, (Below.refl _ _).alloc (Nat.le_refl _) _⟩
 case round =>
  obtain ⟨w3, rfl⟩ : ∃ w3, w3 = wr := ⟨_, rfl⟩
  obtain ⟨k, ga, capa, ra, hk, rfl, rfl, hha, hma, hbe⟩ := hrel
  have HHA : Hid (type_of% hha) := hha
  have HMA : Hid (type_of% hma) := hma
  by_cases hlt : k < xs.length
  ·obtain ⟨b, off, x0, x1, x2, x3, rfl, hbl, hsz, hty, q0, q1, q2, q3, q4⟩ := HEL.out k hlt
   have c1 := (hbe.cell (p := ⟨b, off + k * 5 + 1, none⟩) hbl).trans q1
   have c2 := (hbe.cell (p := ⟨b, off + k * 5 + 2, none⟩) hbl).trans q2
   have c3 := (hbe.cell (p := ⟨b, off + k * 5 + 3, none⟩) hbl).trans q3
   have c4 := (hbe.cell (p := ⟨b, off + k * 5 + 4, none⟩) hbl).trans q4
   have HC : Hid (type_of% (HRC.out k hlt _ w3 hbe (hty.below hbe))) := HRC.out k hlt _ w3 hbe (hty.below hbe)
   have hk0i : (0 : Int) ≤ (k : Int) := by omega
   have hk1i : (k : Int) < (xs.length : Int) := by omega
   have HRR : Hid (∀ r' : List ByteArray, (∀ x, x ∈ r' ↔ x ∈ ra ∨ Rch (n + 1) es xs[k].2 x) → ∀ x, x ∈ r' ↔ ∃ j, ∃ h : j < xs.length, j < k + 1 ∧ Rch (n + 1) es xs[j].2 x) := fun r' hr' x => by
    rw [hr', hma]
    constructor
    ·rintro (⟨j, hj, hjk, h⟩ | h)
     ·exact ⟨j, hj, by omega, h⟩
     ·exact ⟨k, hlt, by omega, h⟩
    ·rintro ⟨j, hj, hjk, h⟩
     by_cases c : j = k
     ·subst c; exact .inr h
     ·exact .inl ⟨j, hj, by omega, h⟩
   have HIN : Hid (∀ x, x ∈ ra ∨ Rch (n + 1) es xs[k].2 x → ∃ e ∈ xs, Rch (n + 1) es e.2 x) := fun x hx => by
    rcases hx with hx | hx
    ·obtain ⟨j, hj, _, h⟩ := (hma x).1 hx
     exact ⟨_, List.getElem_mem hj, h⟩
    ·exact ⟨_, List.getElem_mem hlt, hx⟩
   clear hha hma HMA q0 q1 q2 q3 q4 hty hsz HRC HEL
   generalize xs[k].2 = T at *
   go_wp2_with fail
   refine HC.out.mono ?_
   rintro e w6 ⟨gm, capm, rm, rfl, hhm, hrml, hmm, hb6⟩
   have hb36 : Below w.heap.size w w6 := hbe.trans (hb6.mono hbe.size)
   have HH6 : Hid (Held w6 (.slice (some ⟨ga, 0, none⟩) ra.length capa) ra) := HHA.out.below hb6
   have HCM : Hid (type_of% (held_cells hhm)) := held_cells hhm
   have HMX : Hid (type_of% hmm) := hmm
   clear HC hhm hmm HHA hb6 c1 c2 c3 c4
   go_wp2_with fail
   go_loopw [5, 8] (fun v i wr => ∃ (q g cap : Nat) (r' : List ByteArray), q ≤ rm.length ∧ i = .int .i64 q ∧ v = .slice (some ⟨g, 0, none⟩) r'.length cap ∧ Held wr (.slice (some ⟨g, 0, none⟩) r'.length cap) r' ∧ (∀ x, x ∈ r' ↔ x ∈ ra ∨ x ∈ rm.take q) ∧ Below w6.heap.size w6 wr) (fun _ i _ => rm.length - (intOf i).toNat)
   case atStart => exact ⟨0, _, _, ra, Nat.zero_le _, rfl, rfl, HH6.out, fun x => by simp, Below.refl _ _⟩
   case round =>
    obtain ⟨q, g3, cap3, r', hq, rfl, rfl, hheld, hmem, hb7⟩ := hrel
    by_cases hlq : q < rm.length
    ·have hg2 : gm < w6.heap.size := World.block_lt_of_cell? w6 ⟨gm, q, none⟩ (HCM.out q hlq)
     have C := (hb7.cell (p := ⟨gm, q, none⟩) hg2).trans (HCM.out q hlq)
     have hq0i : (0 : Int) ≤ (q : Int) := by omega
     have hq1i : (q : Int) < (rm.length : Int) := by omega
     obtain ⟨g4, cap4, e4, hcap4⟩ := hheld.form
     simp only [Value.slice.injEq, Option.some.injEq, Addr.mk.injEq, true_and, and_true] at e4
     obtain ⟨rfl, rfl⟩ := e4
     have hrl := HSH.out r' hheld.asc fun x hx => HIN.out x (by
      rcases (hmem x).1 hx with h | h
      ·exact .inl h
      ·exact .inr ((HMX.out x).1 (List.mem_of_mem_take h)))
     have HP0 := specPut g3 cap3 r' rm[q] wr hheld.texts hcap4 hrl hheld.asc
     have HP : Hid (type_of% HP0) := HP0
     have HM3 : Hid (∀ r'' : List ByteArray, (∀ x, x ∈ r'' ↔ x = rm[q] ∨ x ∈ r') → ∀ x, x ∈ r'' ↔ x ∈ ra ∨ x ∈ rm.take (q + 1)) := fun r'' hr'' x => by
      rw [hr'', hmem, List.take_succ_eq_append_getElem hlq, List.mem_append, List.mem_singleton]
      constructor
      ·rintro (h | h | h)
       ·exact .inr (.inr h)
       ·exact .inl h
       ·exact .inr (.inl h)
      ·rintro (h | h | h)
       ·exact .inr (.inl h)
       ·exact .inr (.inr h)
       ·exact .inl h
     generalize rm[q] = z at *
     clear HP0 hheld hmem hcap4 HH6
     go_wp2_with fail
     refine HP.out.mono ?_
     rintro e w8 ⟨g5, cap5, r5, rfl, ht5, hc5, hl5, ha5, hm5, hb5⟩
     have HF5 : Hid (Held w8 (.slice (some ⟨g5, 0, none⟩) r5.length cap5) r5) := ⟨⟨g5, cap5, rfl, hc5⟩, ht5, ha5⟩
     have HM5 := HM3.out r5 hm5
     have HM6 : Hid (type_of% HM5) := HM5
     have hb8 : Below w6.heap.size w6 w8 := hb7.trans (hb5.mono hb7.size)
     clear ht5 hc5 ha5 hm5 HM5 hb5 HP
     go_wp2_with fail
     go_roundw
     case rel => exact ⟨q + 1, _, _, r5, by omega, by go_num, rfl, HF5.out, HM6.out, hb8⟩
     case measure => simp [intOf]; omega
    ·have hqe : q = rm.length := by omega
     have HMY := HRR.out r' fun x => by rw [hmem, hqe, List.take_of_length_le (Nat.le_refl _), HMX.out]
     have HMZ : Hid (type_of% HMY) := HMY
     have HF : Hid (type_of% hheld) := hheld
     have hb38 := hb36.trans (hb7.mono hb36.size)
     clear hmem HMY hheld HCM HH6 HRR HMX HIN
     go_wp2_with fail
     go_roundw
     case rel => exact ⟨k + 1, _, _, r', by omega, by go_num, rfl, HF.out, HMZ.out, hb38⟩
     case measure => simp [intOf]; omega
  ·have hke : k = xs.length := by omega
   have hral := HSH.out ra hha.asc fun x hx => by
    obtain ⟨j, hj, _, h⟩ := (hma x).1 hx
    exact ⟨_, List.getElem_mem hj, h⟩
   have HMZ : Hid (∀ x, x ∈ ra ↔ ∃ e ∈ xs, Rch (n + 1) es e.2 x) := fun x => by
    rw [hma]
    constructor
    ·rintro ⟨j, hj, _, h⟩
     exact ⟨_, List.getElem_mem hj, h⟩
    ·rintro ⟨e, he, h⟩
     obtain ⟨j, hj, rfl⟩ := List.getElem_of_mem he
     exact ⟨j, hj, by omega, h⟩
   clear hha hma HMA HRC HEL HSH
   go_wp2_with fail
   go_ret
   exact ⟨ga, capa, ra, rfl, HHA.out, hral, HMZ.out, hbe⟩
end Go.Proofs.YtbojmbeopnlmiaaGreatDoor
namespace Go.Proofs
open Go.Shelf
def Tryz.lays144_ren : Go.Shelf.Ren := ⟨fun | 144 => 107 | 143 => 129 | 219 => 143 | 217 => 158 | 225 => 159 | 224 => 160 | 267 => 161 | 266 => 177 | 314 => 178 | n => n, fun | 9 => 9 | 4 => 4 | 3 => 3 | 5 => 5 | 46 => 125 | 146 => 155 | 51 => 154 | n => n, fun | 1 => 2 | n => n⟩
theorem Tryz.lays144 : Go.Proofs.Lays.n144 Tryz.prog Tryz.lays144_ren := {
 mixed := by kernel_rfl
 f143 := Tryz.func129.trans (congrArg some (by kernel_rfl))
 f144 := Tryz.func107.trans (congrArg some (by kernel_rfl))
 f217 := Tryz.func158.trans (congrArg some (by kernel_rfl))
 f219 := Tryz.func143.trans (congrArg some (by kernel_rfl))
 f224 := Tryz.func160.trans (congrArg some (by kernel_rfl))
 f225 := Tryz.func159.trans (congrArg some (by kernel_rfl))
 f266 := Tryz.func177.trans (congrArg some (by kernel_rfl))
 f267 := Tryz.func161.trans (congrArg some (by kernel_rfl))
 f314 := Tryz.func178.trans (congrArg some (by kernel_rfl))
 t3 := Tryz.underlying3
 a3 := Tryz.isAgg3
 z3 := Tryz.sizeOf3
 v3 := Tryz.zeroValue3
 t4 := Tryz.underlying4
 a4 := Tryz.isAgg4
 z4 := Tryz.sizeOf4
 v4 := Tryz.zeroValue4
 t5 := Tryz.underlying5
 a5 := Tryz.isAgg5
 z5 := Tryz.sizeOf5
 v5 := Tryz.zeroValue5
 t9 := Tryz.underlying9
 a9 := Tryz.isAgg9
 z9 := Tryz.sizeOf9
 v9 := Tryz.zeroValue9
 t46 := Tryz.underlying125
 a46 := Tryz.isAgg125
 z46 := Tryz.sizeOf125
 v46 := Tryz.zeroValue125
 t51 := Tryz.underlying154
 a51 := Tryz.isAgg154
 z51 := Tryz.sizeOf154
 v51 := Tryz.zeroValue154
 t146 := Tryz.underlying155
 a146 := Tryz.isAgg155
 z146 := Tryz.sizeOf155
 v146 := Tryz.zeroValue155
 g1 := by kernel_rfl }
open Go.RowKit Go.Lib in
theorem Tryz.strings_Contains_one (s : ByteArray) (c : UInt8) (w : World) :
  Calls Tryz.prog 107 #[.string s, .string ⟨#[c]⟩] w fun e w' => e = .returned (.bool (decide (0 ≤ Lib.indexByte s.data.toList c))) ∧ w' = w := Any.strings_Contains_one Tryz.lays144 s c w
end Go.Proofs
namespace Go.Proofs.YtbojmbeopnlmiaaGreatDoor
open Go.RowKit
def FirstD (D : ByteArray → Bool) (es : List (ByteArray × Ty)) (i : Int) : Prop := (∃ k : Nat, i = k ∧ ∃ h : k < es.length, D es[k].1 = true) ∨ (i = -1 ∧ ∀ j (h : j < es.length), D es[j].1 = false)
set_option maxHeartbeats 1600000 in
set_option maxRecDepth 100000 in
theorem slIndexDot (D : ByteArray → Bool) (n : Nat) (v : Value) (es : List (ByteArray × Ty)) (w : World) (hrow : EnvAt w n v es) (hlen : es.length ≤ 1048576)
  (hF : ∀ (x : ByteArray) (x0 x1 x2 x3 : Value) (wx : World), Calls Tryz.prog 80 #[.agg #[.string x, x0, x1, x2, x3]] wx fun e w' => e = .returned (.bool (D x)) ∧ Below wx.heap.size wx w') :
  Calls Tryz.prog 106 #[v, .func (Fn.func 80) #[] #[]] w fun e w' => ∃ i : Int, e = .returned (.int .i64 i) ∧ FirstD D es i ∧ Below w.heap.size w w' := by
 obtain ⟨av, capv, rfl, hel⟩ := envOpen hrow
 have HEL : Hid (type_of% hel) := hel
 have HFF : Hid (type_of% hF) := hF
 clear hel hrow hF
 go_enter Tryz.func106, Tryz.ntmps106
 go_wp2_with fail
 go_loopw [8] (fun i wr => ∃ k : Nat, k ≤ es.length ∧ i = .int .i64 k ∧ (∀ j (h : j < es.length), j < k → D es[j].1 = false) ∧ Below w.heap.size w wr) (fun i _ => es.length - (intOf i).toNat)
 case atStart => exact ⟨0, Nat.zero_le _, rfl, fun j _ h => absurd h (by omega), Below.refl _ _⟩
 case round =>
  obtain ⟨k, hk, rfl, hall, hbe⟩ := hrel
  have HALL : Hid (type_of% hall) := hall
  clear hall
  by_cases hlt : k < es.length
  ·obtain ⟨b, off, x0, x1, x2, x3, rfl, hbl, _, hty, q0, q1, q2, q3, q4⟩ := HEL.out k hlt
   have c0 := (hbe.cell (p := ⟨b, off + k * 5, none⟩) hbl).trans q0
   have c1 := (hbe.cell (p := ⟨b, off + k * 5 + 1, none⟩) hbl).trans q1
   have c2 := (hbe.cell (p := ⟨b, off + k * 5 + 2, none⟩) hbl).trans q2
   have c3 := (hbe.cell (p := ⟨b, off + k * 5 + 3, none⟩) hbl).trans q3
   have c4 := (hbe.cell (p := ⟨b, off + k * 5 + 4, none⟩) hbl).trans q4
   have hk0i : (0 : Int) ≤ (k : Int) := by omega
   have hk1i : (k : Int) < (es.length : Int) := by omega
   have HF0 := HFF.out es[k].1 x0 x1 x2 x3 wr
   cases he : D es[k].1 with
   | true =>
    have HA : Hid (FirstD D es k) := .inl ⟨k, rfl, hlt, he⟩
    rw [he] at HF0
    have HF : Hid (type_of% HF0) := HF0
    clear HF0 he q0 q1 q2 q3 q4 hty HALL HEL HFF
    generalize es[k].1 = x at *
    go_wp2_with fail
    refine HF.out.mono ?_
    rintro e w2 ⟨rfl, hb2⟩
    go_wp2_with fail
    go_ret
    exact ⟨k, rfl, HA.out, hbe.trans (hb2.mono hbe.size)⟩
   | false =>
    have HA2 : Hid (∀ j (h : j < es.length), j < k + 1 → D es[j].1 = false) := fun j hj hjk => by
     by_cases c : j = k
     ·subst c; exact he
     ·exact HALL.out j hj (by omega)
    rw [he] at HF0
    have HF : Hid (type_of% HF0) := HF0
    clear HF0 he q0 q1 q2 q3 q4 hty HALL
    generalize es[k].1 = x at *
    go_wp2_with fail
    refine HF.out.mono ?_
    rintro e w2 ⟨rfl, hb2⟩
    go_wp2_with fail
    go_roundw
    case rel => exact ⟨k + 1, by omega, by go_num, HA2.out, hbe.trans (hb2.mono hbe.size)⟩
    case measure => simp [intOf]; omega
  ·have HA : Hid (FirstD D es (-1)) := .inr ⟨rfl, fun j h => HALL.out j h (by omega)⟩
   clear HALL HEL HFF
   go_wp2_with fail
   go_ret
   exact ⟨-1, rfl, HA.out, hbe⟩
set_option maxHeartbeats 800000 in
set_option maxRecDepth 100000 in
theorem slContainsDot (D : ByteArray → Bool) (n : Nat) (v : Value) (es : List (ByteArray × Ty)) (w : World) (hrow : EnvAt w n v es) (hlen : es.length ≤ 1048576)
  (hF : ∀ (x : ByteArray) (x0 x1 x2 x3 : Value) (wx : World), Calls Tryz.prog 80 #[.agg #[.string x, x0, x1, x2, x3]] wx fun e w' => e = .returned (.bool (D x)) ∧ Below wx.heap.size wx w') :
  Calls Tryz.prog 79 #[v, .func (Fn.func 80) #[] #[]] w fun e w' => e = .returned (.bool (es.any fun x => D x.1)) ∧ Below w.heap.size w w' := by
 have HX : Hid (type_of% (slIndexDot D n v es w hrow hlen hF)) := slIndexDot D n v es w hrow hlen hF
 obtain ⟨av, capv, rfl, _⟩ := envOpen hrow
 obtain ⟨R, hR⟩ : ∃ R, R = es.any fun x => D x.1 := ⟨_, rfl⟩
 rw [← hR]
 have HY : Hid (∀ i, FirstD D es i → (0 ≤ i ∧ R = true) ∨ (i = -1 ∧ R = false)) := fun i h => by
  rcases h with ⟨k, rfl, hk, he⟩ | ⟨rfl, h⟩
  ·exact .inl ⟨by omega, by rw [hR]; exact List.any_eq_true.2 ⟨es[k], List.getElem_mem hk, he⟩⟩
  ·refine .inr ⟨rfl, ?_⟩
   rw [hR]
   refine List.any_eq_false.2 fun x hx => ?_
   obtain ⟨j, hj, rfl⟩ := List.getElem_of_mem hx
   simp [h j hj]
 clear hR hrow hF
 go_enter Tryz.func79, Tryz.ntmps79
 go_wp2_with fail
 refine HX.out.mono ?_
 rintro e w2 ⟨i, rfl, hi, hb2⟩
 rcases HY.out i hi with ⟨h0, rfl⟩ | ⟨rfl, rfl⟩
 ·clear HX HY hi
  go_wp2_with fail
  go_ret
  exact ⟨by simp, hb2⟩
 ·clear HX HY hi
  go_wp2_with fail
  go_ret
  exact ⟨rfl, hb2⟩
set_option maxHeartbeats 1600000 in
set_option maxRecDepth 100000 in
theorem slIndexNoDot (D : ByteArray → Bool) (n : Nat) (v : Value) (es : List (ByteArray × Ty)) (w : World) (hrow : EnvAt w n v es) (hlen : es.length ≤ 1048576)
  (hF : ∀ (x : ByteArray) (x0 x1 x2 x3 : Value) (wx : World), Calls Tryz.prog 81 #[.agg #[.string x, x0, x1, x2, x3]] wx fun e w' => e = .returned (.bool (D x)) ∧ Below wx.heap.size wx w') :
  Calls Tryz.prog 106 #[v, .func (Fn.func 81) #[] #[]] w fun e w' => ∃ i : Int, e = .returned (.int .i64 i) ∧ FirstD D es i ∧ Below w.heap.size w w' := by
 obtain ⟨av, capv, rfl, hel⟩ := envOpen hrow
 have HEL : Hid (type_of% hel) := hel
 have HFF : Hid (type_of% hF) := hF
 clear hel hrow hF
 go_enter Tryz.func106, Tryz.ntmps106
 go_wp2_with fail
 go_loopw [8] (fun i wr => ∃ k : Nat, k ≤ es.length ∧ i = .int .i64 k ∧ (∀ j (h : j < es.length), j < k → D es[j].1 = false) ∧ Below w.heap.size w wr) (fun i _ => es.length - (intOf i).toNat)
 case atStart => exact ⟨0, Nat.zero_le _, rfl, fun j _ h => absurd h (by omega), Below.refl _ _⟩
 case round =>
  obtain ⟨k, hk, rfl, hall, hbe⟩ := hrel
  have HALL : Hid (type_of% hall) := hall
  clear hall
  by_cases hlt : k < es.length
  ·obtain ⟨b, off, x0, x1, x2, x3, rfl, hbl, _, hty, q0, q1, q2, q3, q4⟩ := HEL.out k hlt
   have c0 := (hbe.cell (p := ⟨b, off + k * 5, none⟩) hbl).trans q0
   have c1 := (hbe.cell (p := ⟨b, off + k * 5 + 1, none⟩) hbl).trans q1
   have c2 := (hbe.cell (p := ⟨b, off + k * 5 + 2, none⟩) hbl).trans q2
   have c3 := (hbe.cell (p := ⟨b, off + k * 5 + 3, none⟩) hbl).trans q3
   have c4 := (hbe.cell (p := ⟨b, off + k * 5 + 4, none⟩) hbl).trans q4
   have hk0i : (0 : Int) ≤ (k : Int) := by omega
   have hk1i : (k : Int) < (es.length : Int) := by omega
   have HF0 := HFF.out es[k].1 x0 x1 x2 x3 wr
   cases he : D es[k].1 with
   | true =>
    have HA : Hid (FirstD D es k) := .inl ⟨k, rfl, hlt, he⟩
    rw [he] at HF0
    have HF : Hid (type_of% HF0) := HF0
    clear HF0 he q0 q1 q2 q3 q4 hty HALL HEL HFF
    generalize es[k].1 = x at *
    go_wp2_with fail
    refine HF.out.mono ?_
    rintro e w2 ⟨rfl, hb2⟩
    go_wp2_with fail
    go_ret
    exact ⟨k, rfl, HA.out, hbe.trans (hb2.mono hbe.size)⟩
   | false =>
    have HA2 : Hid (∀ j (h : j < es.length), j < k + 1 → D es[j].1 = false) := fun j hj hjk => by
     by_cases c : j = k
     ·subst c; exact he
     ·exact HALL.out j hj (by omega)
    rw [he] at HF0
    have HF : Hid (type_of% HF0) := HF0
    clear HF0 he q0 q1 q2 q3 q4 hty HALL
    generalize es[k].1 = x at *
    go_wp2_with fail
    refine HF.out.mono ?_
    rintro e w2 ⟨rfl, hb2⟩
    go_wp2_with fail
    go_roundw
    case rel => exact ⟨k + 1, by omega, by go_num, HA2.out, hbe.trans (hb2.mono hbe.size)⟩
    case measure => simp [intOf]; omega
  ·have HA : Hid (FirstD D es (-1)) := .inr ⟨rfl, fun j h => HALL.out j h (by omega)⟩
   clear HALL HEL HFF
   go_wp2_with fail
   go_ret
   exact ⟨-1, rfl, HA.out, hbe⟩
set_option maxHeartbeats 800000 in
set_option maxRecDepth 100000 in
theorem slContainsNoDot (D : ByteArray → Bool) (n : Nat) (v : Value) (es : List (ByteArray × Ty)) (w : World) (hrow : EnvAt w n v es) (hlen : es.length ≤ 1048576)
  (hF : ∀ (x : ByteArray) (x0 x1 x2 x3 : Value) (wx : World), Calls Tryz.prog 81 #[.agg #[.string x, x0, x1, x2, x3]] wx fun e w' => e = .returned (.bool (D x)) ∧ Below wx.heap.size wx w') :
  Calls Tryz.prog 79 #[v, .func (Fn.func 81) #[] #[]] w fun e w' => e = .returned (.bool (es.any fun x => D x.1)) ∧ Below w.heap.size w w' := by
 have HX : Hid (type_of% (slIndexNoDot D n v es w hrow hlen hF)) := slIndexNoDot D n v es w hrow hlen hF
 obtain ⟨av, capv, rfl, _⟩ := envOpen hrow
 obtain ⟨R, hR⟩ : ∃ R, R = es.any fun x => D x.1 := ⟨_, rfl⟩
 rw [← hR]
 have HY : Hid (∀ i, FirstD D es i → (0 ≤ i ∧ R = true) ∨ (i = -1 ∧ R = false)) := fun i h => by
  rcases h with ⟨k, rfl, hk, he⟩ | ⟨rfl, h⟩
  ·exact .inl ⟨by omega, by rw [hR]; exact List.any_eq_true.2 ⟨es[k], List.getElem_mem hk, he⟩⟩
  ·refine .inr ⟨rfl, ?_⟩
   rw [hR]
   refine List.any_eq_false.2 fun x hx => ?_
   obtain ⟨j, hj, rfl⟩ := List.getElem_of_mem hx
   simp [h j hj]
 clear hR hrow hF
 go_enter Tryz.func79, Tryz.ntmps79
 go_wp2_with fail
 refine HX.out.mono ?_
 rintro e w2 ⟨i, rfl, hi, hb2⟩
 rcases HY.out i hi with ⟨h0, rfl⟩ | ⟨rfl, rfl⟩
 ·clear HX HY hi
  go_wp2_with fail
  go_ret
  exact ⟨by simp, hb2⟩
 ·clear HX HY hi
  go_wp2_with fail
  go_ret
  exact ⟨rfl, hb2⟩
def dotIn (x : ByteArray) : Bool := decide (0 ≤ Lib.indexByte x.data.toList 46)
set_option maxHeartbeats 400000 in
theorem implHasDot (x : ByteArray) (x0 x1 x2 x3 : Value) (w : World) :
  Calls Tryz.prog 80 #[.agg #[.string x, x0, x1, x2, x3]] w fun e w' => e = .returned (.bool (dotIn x)) ∧ Below w.heap.size w w' := by
 have HCT : Hid (∀ wx : World, Calls Tryz.prog 107 #[.string x, .string ⟨#[46]⟩] wx fun e w' => e = .returned (.bool (dotIn x)) ∧ w' = wx) := fun wx => Tryz.strings_Contains_one x 46 wx
 have hB1 : Below w.heap.size w (w.alloc (.cells #[.string x, x0, x1, x2, x3] 75)) := (Below.refl _ _).alloc (Nat.le_refl _) _
 generalize dotIn x = d at *
 go_enter Tryz.func80, Tryz.ntmps80
 go_wp2_with fail
 refine (HCT.out _).mono ?_
 rintro e w2 ⟨rfl, rfl⟩
 go_wp2_with fail
 go_ret
 exact ⟨rfl, hB1⟩
set_option maxHeartbeats 400000 in
theorem implHasNoDot (x : ByteArray) (x0 x1 x2 x3 : Value) (w : World) :
  Calls Tryz.prog 81 #[.agg #[.string x, x0, x1, x2, x3]] w fun e w' => e = .returned (.bool (!dotIn x)) ∧ Below w.heap.size w w' := by
 have HCT : Hid (∀ wx : World, Calls Tryz.prog 80 #[.agg #[.string x, x0, x1, x2, x3]] wx fun e w' => e = .returned (.bool (dotIn x)) ∧ Below wx.heap.size wx w') := fun wx => implHasDot x x0 x1 x2 x3 wx
 have hB1 : Below w.heap.size w (w.alloc (.cells #[.string x, x0, x1, x2, x3] 75)) := (Below.refl _ _).alloc (Nat.le_refl _) _
 generalize dotIn x = d at *
 go_enter Tryz.func81, Tryz.ntmps81
 go_wp2_with fail
 refine (HCT.out _).mono ?_
 rintro e w2 ⟨rfl, hb2⟩
 go_wp2_with fail
 go_ret
 exact ⟨rfl, hB1.trans (hb2.mono hB1.size)⟩
theorem hasDots (n : Nat) (v : Value) (es : List (ByteArray × Ty)) (w : World) (hrow : EnvAt w n v es) (hlen : es.length ≤ 1048576) :
  Calls Tryz.prog 79 #[v, .func (Fn.func 80) #[] #[]] w fun e w' => e = .returned (.bool (es.any fun x => dotIn x.1)) ∧ Below w.heap.size w w' := slContainsDot dotIn n v es w hrow hlen fun x x0 x1 x2 x3 wx => implHasDot x x0 x1 x2 x3 wx
theorem hasNoDots (n : Nat) (v : Value) (es : List (ByteArray × Ty)) (w : World) (hrow : EnvAt w n v es) (hlen : es.length ≤ 1048576) :
  Calls Tryz.prog 79 #[v, .func (Fn.func 81) #[] #[]] w fun e w' => e = .returned (.bool (es.any fun x => !dotIn x.1)) ∧ Below w.heap.size w w' := slContainsNoDot (fun x => !dotIn x) n v es w hrow hlen fun x x0 x1 x2 x3 wx => implHasNoDot x x0 x1 x2 x3 wx
end Go.Proofs.YtbojmbeopnlmiaaGreatDoor
