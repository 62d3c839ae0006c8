/-
 Contracts of the library, laid at this translation.
-/
import Derived.Test.YtbojmbeopnlmiaaGreatDoorOwnI
import Derived.Lib.IndexLaws
import Derived.Test.YtbojmbeopnlmiaaGreatDoorMkO
import Derived.Deep.RegionLaw
namespace Go.Proofs
open Go.Shelf
def Tryz.lays219_ren : Go.Shelf.Ren := ⟨fun | 219 => 143 | 217 => 158 | 225 => 159 | 224 => 160 | 267 => 161 | 266 => 177 | 314 => 178 | n => n, fun | 9 => 9 | 3 => 3 | 4 => 4 | 5 => 5 | 46 => 125 | 146 => 155 | 51 => 154 | n => n, fun | 1 => 2 | n => n⟩
theorem Tryz.lays219 : Go.Proofs.Lays.n219 Tryz.prog Tryz.lays219_ren := {
 mixed := by kernel_rfl
 f217 := Tryz.func158.trans (congrArg some (by kernel_rfl))
 f219 := Tryz.func143.trans (congrArg some (by kernel_rfl))
 f224 := Tryz.func160.trans (congrArg some (by kernel_rfl))
 f225 := Tryz.func159.trans (congrArg some (by kernel_rfl))
 f266 := Tryz.func177.trans (congrArg some (by kernel_rfl))
 f267 := Tryz.func161.trans (congrArg some (by kernel_rfl))
 f314 := Tryz.func178.trans (congrArg some (by kernel_rfl))
 t3 := Tryz.underlying3
 a3 := Tryz.isAgg3
 z3 := Tryz.sizeOf3
 v3 := Tryz.zeroValue3
 t4 := Tryz.underlying4
 a4 := Tryz.isAgg4
 z4 := Tryz.sizeOf4
 v4 := Tryz.zeroValue4
 t5 := Tryz.underlying5
 a5 := Tryz.isAgg5
 z5 := Tryz.sizeOf5
 v5 := Tryz.zeroValue5
 t9 := Tryz.underlying9
 a9 := Tryz.isAgg9
 z9 := Tryz.sizeOf9
 v9 := Tryz.zeroValue9
 t46 := Tryz.underlying125
 a46 := Tryz.isAgg125
 z46 := Tryz.sizeOf125
 v46 := Tryz.zeroValue125
 t51 := Tryz.underlying154
 a51 := Tryz.isAgg154
 z51 := Tryz.sizeOf154
 v51 := Tryz.zeroValue154
 t146 := Tryz.underlying155
 a146 := Tryz.isAgg155
 z146 := Tryz.sizeOf155
 v146 := Tryz.zeroValue155
 g1 := by kernel_rfl }
open Go.RowKit Go.Lib in
theorem Tryz.stringslite_Index_one (s : ByteArray) (c : UInt8) (w : World) :
  Calls Tryz.prog 143 #[.string s, .string ⟨#[c]⟩] w fun e w' => e = .returned (.int .i64 (Lib.indexByte s.data.toList c)) ∧ w' = w := Any.stringslite_Index_one Tryz.lays219 s c w
end Go.Proofs
namespace Go.Proofs.YtbojmbeopnlmiaaGreatDoor
open Go.RowKit
theorem byt_list (s : ByteArray) (k : Nat) (h : k < s.size) : s.data.toList[k]? = some 46 ↔ Lx.byt s k = 46 := by
 have hk : k < s.data.toList.length := h
 rw [List.getElem?_eq_getElem hk, ← Lx.byt_eq s k h, Option.some.injEq]
 have e : s.data.toList[k] = s[k] := by simp [ByteArray.getElem_eq_getElem_data]
 rw [e, ← UInt8.toNat_inj]
 rfl
theorem dot_none {s : ByteArray} (h : Lib.indexByte s.data.toList 46 = -1) (f i : Nat) : dotP s f i = none := by
 induction f generalizing i with
 | zero => rfl
 | succ f ih =>
  rw [dotP]
  by_cases hi : i < s.size
  ·rw [if_pos hi, if_neg (fun e => Lib.indexByte_none h i ((byt_list s i hi).2 e)), ih]
  ·rw [if_neg hi]
theorem dot_some {s : ByteArray} {o : Nat} (h : Lib.indexByte s.data.toList 46 = o) : o < s.size ∧ ∀ (d f : Nat), d ≤ o → o - d < f → dotP s f d = some o := by
 obtain ⟨h1, h2⟩ := Lib.indexByte_some h
 have ho : o < s.size := (List.getElem?_eq_some_iff.1 h1).1
 refine ⟨ho, ?_⟩
 intro d f hd hf
 induction f generalizing d with
 | zero => omega
 | succ f ih =>
  by_cases e : d = o
  ·subst e
   exact dotP_hit ho ((byt_list s d ho).1 h1)
  ·rw [dotP_skip (by omega) (fun hb => h2 d (by omega) ((byt_list s d (by omega)).2 hb))]
   exact ih (d + 1) (by omega) (by omega)
def cutP (s : ByteArray) : Value := match dotP s (s.size + 1) 0 with
 | some i => .tuple #[.string (s.extract 0 i), .string (s.extract (i + 1) s.size), .bool true]
 | none => .tuple #[.string s, .string ⟨#[]⟩, .bool false]
set_option maxHeartbeats 800000 in
set_option maxRecDepth 100000 in
theorem liteCut (s : ByteArray) (w : World) (hs : s.size ≤ 140737488355328) :
  Calls Tryz.prog 151 #[.string s, .string ⟨#[46]⟩] w fun e w' => e = .returned (cutP s) ∧ Below w.heap.size w w' := by
 have HI : Hid (Calls Tryz.prog 143 #[.string s, .string ⟨#[46]⟩] w fun e w' => e = .returned (.int .i64 (Lib.indexByte s.data.toList 46)) ∧ w' = w) := Tryz.stringslite_Index_one s 46 w
 have hge := Lib.indexByte_ge s.data.toList 46
 by_cases h : Lib.indexByte s.data.toList 46 = -1
 ·have HR : Hid (cutP s = .tuple #[.string s, .string ⟨#[]⟩, .bool false]) := by show _ = _; unfold cutP; rw [dot_none h]
  rw [h] at HI
  clear hge h
  go_enter Tryz.func151, Tryz.ntmps151
  go_wp2_with fail
  refine HI.out.mono ?_
  rintro e w1 ⟨rfl, rfl⟩
  go_wp2_with fail
  go_ret3
  exact ⟨by rw [HR.out]; rfl, Below.refl _ _⟩
 ·obtain ⟨o, ho⟩ : ∃ o : Nat, Lib.indexByte s.data.toList 46 = o := ⟨(Lib.indexByte s.data.toList 46).toNat, by omega⟩
  obtain ⟨h1, h2⟩ := dot_some ho
  have HR : Hid (cutP s = .tuple #[.string (s.extract 0 o), .string (s.extract (o + 1) s.size), .bool true]) := by show _ = _; unfold cutP; rw [h2 0 (s.size + 1) (by omega) (by omega)]
  rw [ho] at HI
  have hk0 : (0 : Int) ≤ (o : Int) := by omega
  have hk1 : (o : Int) ≤ (s.size : Int) := by omega
  have hk2 : (o : Int) + 1 ≤ (s.size : Int) := by omega
  clear hge h ho h2
  go_enter Tryz.func151, Tryz.ntmps151
  go_wp2_with fail
  refine HI.out.mono ?_
  rintro e w1 ⟨rfl, rfl⟩
  go_wp2_with fail
  go_quiet (fail)
  go_wp2_with fail
  go_ret3
  exact ⟨by rw [HR.out]; rfl, below_drewN (Below.refl _ _) _⟩
set_option maxHeartbeats 800000 in
set_option maxRecDepth 100000 in
theorem stringsCut (s : ByteArray) (w : World) (hs : s.size ≤ 140737488355328) :
  Calls Tryz.prog 140 #[.string s, .string ⟨#[46]⟩] w fun e w' => e = .returned (cutP s) ∧ Below w.heap.size w w' := by
 have HC0 := liteCut s w hs
 have HS : ∃ a b c, cutP s = .tuple #[.string a, .string b, .bool c] := by
  unfold cutP
  split
  ·exact ⟨_, _, _, rfl⟩
  ·exact ⟨_, _, _, rfl⟩
 obtain ⟨a, b, c, e⟩ := HS
 rw [e] at HC0 ⊢
 have HC : Hid (type_of% HC0) := HC0
 clear HC0 e
 go_enter Tryz.func140, Tryz.ntmps140
 go_wp2_with fail
 refine HC.out.mono ?_
 rintro e w1 ⟨rfl, hb1⟩
 go_wp2_with fail
 go_ret3
 exact ⟨rfl, hb1⟩
set_option maxHeartbeats 800000 in
set_option maxRecDepth 100000 in
theorem implTypeNameOk (s : ByteArray) (w : World) (hs : s.size ≤ 140737488355328) (hc : ClsIs w) (hcl : 0 < w.heap.size) :
  Calls Tryz.prog 120 #[.string s] w fun e w' => e = .returned (.bool (dottedP s)) ∧ Below w.heap.size w w' := by
 have HC0 := stringsCut s w hs
 have HN : Hid (∀ (x : ByteArray) (wx : World), Below w.heap.size w wx → x.size ≤ 140737488355328 → Calls Tryz.prog 77 #[.string x] wx fun e w' => e = .returned (.bool (Lx.nameOkP x)) ∧ Below wx.heap.size wx w') := fun x wx hx hxs => (implNameOk x wx hxs (hc.below hx hcl)).mono fun e w' h => ⟨h.1, by rw [← h.2]; exact Below.refl _ _⟩
 cases hd : dotP s (s.size + 1) 0 with
 | none =>
  have e1 : cutP s = .tuple #[.string s, .string ⟨#[]⟩, .bool false] := by unfold cutP; rw [hd]
  have HR : Hid (dottedP s = Lx.nameOkP s) := by show _ = _; unfold dottedP; rw [hd]
  rw [e1] at HC0
  have HC : Hid (type_of% HC0) := HC0
  clear HC0 e1 hd
  go_enter Tryz.func120, Tryz.ntmps120
  go_wp2_with fail
  refine HC.out.mono ?_
  rintro e w1 ⟨rfl, hb1⟩
  have H1 := HN.out s w1 hb1 hs
  have H12 : Hid (type_of% H1) := H1
  clear H1 HN
  generalize Lx.nameOkP s = R at *
  go_wp2_with fail
  refine H12.out.mono ?_
  rintro e w2 ⟨rfl, hb2⟩
  go_wp2_with fail
  go_ret
  exact ⟨by rw [HR.out]; rfl, hb1.trans (hb2.mono hb1.size)⟩
 | some i =>
  have e1 : cutP s = .tuple #[.string (s.extract 0 i), .string (s.extract (i + 1) s.size), .bool true] := by unfold cutP; rw [hd]
  have HR : Hid (dottedP s = (Lx.nameOkP (s.extract 0 i) && Lx.nameOkP (s.extract (i + 1) s.size))) := by show _ = _; unfold dottedP; rw [hd]
  rw [e1] at HC0
  have HC : Hid (type_of% HC0) := HC0
  have z1 : (s.extract 0 i).size ≤ 140737488355328 := by rw [ByteArray.size_extract]; omega
  have z2 : (s.extract (i + 1) s.size).size ≤ 140737488355328 := by rw [ByteArray.size_extract]; omega
  clear HC0 e1 hd
  generalize s.extract 0 i = A at *
  generalize s.extract (i + 1) s.size = B at *
  have H1 : Hid (∀ wx : World, Below w.heap.size w wx → Calls Tryz.prog 77 #[.string A] wx fun e w' => e = .returned (.bool (Lx.nameOkP A)) ∧ Below wx.heap.size wx w') := fun wx hx => HN.out A wx hx z1
  have H2 : Hid (∀ wx : World, Below w.heap.size w wx → Calls Tryz.prog 77 #[.string B] wx fun e w' => e = .returned (.bool (Lx.nameOkP B)) ∧ Below wx.heap.size wx w') := fun wx hx => HN.out B wx hx z2
  clear HN
  generalize Lx.nameOkP A = r1 at *
  generalize Lx.nameOkP B = r2 at *
  cases r1 with
  | false =>
   go_enter Tryz.func120, Tryz.ntmps120
   go_wp2_with fail
   refine HC.out.mono ?_
   rintro e w1 ⟨rfl, hb1⟩
   go_wp2_with fail
   refine (H1.out _ hb1).mono ?_
   rintro e w2 ⟨rfl, hb2⟩
   go_wp2_with fail
   go_ret
   exact ⟨by rw [HR.out]; rfl, hb1.trans (hb2.mono hb1.size)⟩
  | true =>
   go_enter Tryz.func120, Tryz.ntmps120
   go_wp2_with fail
   refine HC.out.mono ?_
   rintro e w1 ⟨rfl, hb1⟩
   go_wp2_with fail
   refine (H1.out _ hb1).mono ?_
   rintro e w2 ⟨rfl, hb2⟩
   have hb02 := hb1.trans (hb2.mono hb1.size)
   go_wp2_with fail
   refine (H2.out _ hb02).mono ?_
   rintro e w3 ⟨rfl, hb3⟩
   go_wp2_with fail
   go_ret
   exact ⟨by rw [HR.out]; rfl, hb02.trans (hb3.mono hb02.size)⟩
def FieldsRight (nms : List ByteArray) (k : Nat) : Prop := (∀ x ∈ nms, Lx.nameOkP x = true) ∧ nms.length = k ∧ Ascend nms
set_option maxHeartbeats 1600000 in
set_option maxRecDepth 100000 in
open Classical in
theorem implFieldsOk (vn : Value) (nms : List ByteArray) (ap : Option Addr) (lp cp : Nat) (w : World) (hT : Texts w vn nms) (hl : nms.length ≤ 1048576) (hns : ∀ x ∈ nms, x.size ≤ 1048576) (hc : ClsIs w) (hcl : 0 < w.heap.size) :
  Calls Tryz.prog 121 #[vn, .slice ap lp cp] w fun e w' => e = .returned (.bool (decide (FieldsRight nms lp))) ∧ Below w.heap.size w w' := by
 have HT : Hid (Texts w vn nms) := hT
 obtain ⟨a, cap, rfl, hcs⟩ : ∃ a cap, vn = .slice a nms.length cap ∧ ∀ j (h : j < nms.length), ∃ b off, a = some ⟨b, off, none⟩ ∧ w.cell? ⟨b, off + j, none⟩ = some (.string nms[j]) := by
  rcases hT with ⟨h, a, cap, e⟩ | ⟨b, off, cap, e, hc⟩
  ·subst h; exact ⟨a, cap, e, fun j hj => absurd hj (by simp)⟩
  ·exact ⟨_, cap, e, fun j hj => ⟨b, off, rfl, hc j hj⟩⟩
 have HC : Hid (type_of% hcs) := hcs
 have HCL : Hid (∀ wx : World, Below w.heap.size w wx → ClsIs wx) := fun wx hx => hc.below hx hcl
 have HSZ : Hid (type_of% hns) := hns
 obtain ⟨RR, hRR⟩ : ∃ RR, RR = decide (FieldsRight nms lp) := ⟨_, rfl⟩
 rw [← hRR]
 have HNO : Hid (¬ FieldsRight nms lp → RR = false) := fun h => by rw [hRR]; exact decide_eq_false h
 have HYES : Hid (FieldsRight nms lp → RR = true) := fun h => by rw [hRR]; exact decide_eq_true h
 clear hRR hT hcs hc hcl hns
 go_enter Tryz.func121, Tryz.ntmps121
 go_wp2_with fail
 go_loopw [9] (fun i wr => ∃ k : Nat, k ≤ nms.length ∧ i = .int .i64 k ∧ (∀ j (hj : j < nms.length), j < k → Lx.nameOkP nms[j] = true) ∧ Below w.heap.size w wr) (fun i _ => nms.length - (intOf i).toNat)
 case atStart => exact ⟨0, Nat.zero_le _, rfl, fun j _ h => absurd h (by omega), Below.refl _ _⟩
 case round =>
  obtain ⟨k, hk, rfl, hall, hbe⟩ := hrel
  have HALL : Hid (type_of% hall) := hall
  clear hall
  by_cases hlt : k < nms.length
  ·obtain ⟨b, off, rfl, c0⟩ := HC.out k hlt
   have hb : b < w.heap.size := World.block_lt_of_cell? w ⟨b, off + k, none⟩ c0
   have C0 := (hbe.cell (p := ⟨b, off + k, none⟩) hb).trans c0
   have HN0 := implNameOk nms[k] wr (by have := HSZ.out _ (List.getElem_mem hlt); omega) (HCL.out wr hbe)
   cases hr : Lx.nameOkP nms[k] with
   | true =>
    have HA2 : Hid (∀ j (hj : j < nms.length), j < k + 1 → Lx.nameOkP nms[j] = true) := fun j hj hjk => by
     by_cases c : j = k
     ·subst c; exact hr
     ·exact HALL.out j hj (by omega)
    rw [hr] at HN0
    have HN : Hid (type_of% HN0) := HN0
    clear HN0 hr c0 HALL HNO HYES HC HSZ HCL HT
    generalize nms[k] = x at *
    go_wp2_with fail
    refine HN.out.mono ?_
    rintro e w2 ⟨rfl, rfl⟩
    go_wp2_with fail
    go_roundw
    case rel => exact ⟨k + 1, by omega, by go_num, HA2.out, hbe⟩
    case measure => simp [intOf]; omega
   | false =>
    have HR : Hid (RR = false) := HNO.out fun h => by
     have := h.1 _ (List.getElem_mem hlt)
     rw [hr] at this
     cases this
    rw [hr] at HN0
    have HN : Hid (type_of% HN0) := HN0
    clear HN0 hr c0 HALL HNO HYES HC HSZ HCL HT
    generalize nms[k] = x at *
    go_wp2_with fail
    refine HN.out.mono ?_
    rintro e w2 ⟨rfl, rfl⟩
    go_wp2_with fail
    go_ret
    exact ⟨by rw [HR.out]; rfl, hbe⟩
  ·have HAN : Hid (∀ x ∈ nms, Lx.nameOkP x = true) := fun x hx => by
    obtain ⟨j, hj, rfl⟩ := List.getElem_of_mem hx
    exact HALL.out j hj (by omega)
   have HA0 := implAscends _ nms wr (HT.out.below hbe) (by omega)
   by_cases h2 : nms.length = lp
   ·have h2i : ((nms.length : Int) == (lp : Int)) = true := by rw [beq_iff_eq]; omega
    by_cases h3 : Ascend nms
    ·have HR : Hid (RR = true) := HYES.out ⟨HAN.out, h2, h3⟩
     rw [decide_eq_true h3] at HA0
     have HA : Hid (type_of% HA0) := HA0
     clear HA0 h2 h3 HALL HNO HYES HC HSZ HCL HT HAN
     go_wp2_with fail
     refine HA.out.mono ?_
     rintro e w2 ⟨rfl, hb2⟩
     go_wp2_with fail
     go_ret
     exact ⟨by rw [HR.out]; rfl, hbe.trans (hb2.mono hbe.size)⟩
    ·have HR : Hid (RR = false) := HNO.out fun h => h3 h.2.2
     rw [decide_eq_false h3] at HA0
     have HA : Hid (type_of% HA0) := HA0
     clear HA0 h2 h3 HALL HNO HYES HC HSZ HCL HT HAN
     go_wp2_with fail
     refine HA.out.mono ?_
     rintro e w2 ⟨rfl, hb2⟩
     go_wp2_with fail
     go_ret
     exact ⟨by rw [HR.out]; rfl, hbe.trans (hb2.mono hbe.size)⟩
   ·have HR : Hid (RR = false) := HNO.out fun h => h2 h.2.1
    have h2i : ((nms.length : Int) == (lp : Int)) = false := by rw [beq_eq_false_iff_ne]; omega
    clear HA0 h2 HALL HNO HYES HC HSZ HCL HT HAN
    go_wp2_with fail
    go_ret
    exact ⟨by rw [HR.out]; rfl, hbe⟩
end Go.Proofs.YtbojmbeopnlmiaaGreatDoor
namespace Go.Proofs.YtbojmbeopnlmiaaGreatDoor
open Go.RowKit Go.Shelf
theorem ownAlone_iff (kd : Int) (nm : ByteArray) (ln lk : Nat) : ownAlone kd nm ln lk = true ↔ (kd = 4 ∨ nm.size = 0) ∧ (kd = 5 ∨ ln = 0) ∧ (5 ≤ kd ∨ lk = 0) := by
 unfold ownAlone
 simp only [Bool.and_eq_true, decide_eq_true_eq]
 exact ⟨fun h => ⟨h.1.1, h.1.2, h.2⟩, fun h => ⟨⟨h.1, h.2.1⟩, h.2.2⟩⟩
theorem right_alone {n : Nat} {t : Ty} (h : OwnRight n t) : ownAlone t.kind t.name t.names.length t.kids.length = true := by
 rw [ownAlone_iff]
 rcases h with ⟨h1, h2, h3, h4⟩ | ⟨h1, h2, h3, h4⟩ | ⟨h1, h2, h3, h4⟩ | ⟨h1, h2, h3, h4⟩ | ⟨h1, h2, h3, h4, h5⟩
 ·exact ⟨.inr h2, .inr h3, .inr h4⟩
 ·exact ⟨.inl h1, .inr h3, .inr h4⟩
 ·exact ⟨.inr h3, .inl h1, .inl (by omega)⟩
 ·exact ⟨.inr h2, .inr h3, .inl (by omega)⟩
 ·exact ⟨.inr h3, .inr h4, .inl (by omega)⟩
theorem own_plain {n : Nat} {kd : Int} {nm : ByteArray} {nms : List ByteArray} {ks : List Ty} (hk : kd = 0 ∨ kd = 1 ∨ kd = 2 ∨ kd = 3) (h : ownAlone kd nm nms.length ks.length = true) : OwnRight n (.mk kd nm nms ks) := by
 rw [ownAlone_iff] at h
 exact .inl ⟨hk, by show nm.size = 0; omega, by show nms.length = 0; omega, by show ks.length = 0; omega⟩
theorem own_name {n : Nat} {nm : ByteArray} {nms : List ByteArray} {ks : List Ty} (h : ownAlone 4 nm nms.length ks.length = true) : OwnRight n (.mk 4 nm nms ks) ↔ dottedP nm = true := by
 rw [ownAlone_iff] at h
 constructor
 ·rintro (⟨h1, _⟩ | ⟨_, h2, _⟩ | ⟨h1, _⟩ | ⟨h1, _⟩ | ⟨h1, _⟩)
  ·exact absurd h1 (by show ¬ ((4 : Int) = 0 ∨ (4 : Int) = 1 ∨ (4 : Int) = 2 ∨ (4 : Int) = 3); omega)
  ·exact h2
  ·exact absurd h1 (by show ¬ (4 : Int) = 5; omega)
  ·exact absurd h1 (by show ¬ (4 : Int) = 6; omega)
  ·exact absurd h1 (by show ¬ (4 : Int) = 7; omega)
 ·intro hd
  exact .inr (.inl ⟨rfl, hd, by show nms.length = 0; omega, by show ks.length = 0; omega⟩)
theorem own_record {n : Nat} {nm : ByteArray} {nms : List ByteArray} {ks : List Ty} (h : ownAlone 5 nm nms.length ks.length = true) : OwnRight n (.mk 5 nm nms ks) ↔ FieldsRight nms ks.length := by
 rw [ownAlone_iff] at h
 constructor
 ·rintro (⟨h1, _⟩ | ⟨h1, _⟩ | ⟨_, h2, _, h4⟩ | ⟨h1, _⟩ | ⟨h1, _⟩)
  ·exact absurd h1 (by show ¬ ((5 : Int) = 0 ∨ (5 : Int) = 1 ∨ (5 : Int) = 2 ∨ (5 : Int) = 3); omega)
  ·exact absurd h1 (by show ¬ (5 : Int) = 4; omega)
  ·refine ⟨fun x hx => ?_, h4, fun i hi h0 => (h2 i hi).2 h0⟩
   obtain ⟨j, hj, rfl⟩ := List.getElem_of_mem hx
   exact (h2 j hj).1
  ·exact absurd h1 (by show ¬ (5 : Int) = 6; omega)
  ·exact absurd h1 (by show ¬ (5 : Int) = 7; omega)
 ·rintro ⟨h1, h2, h3⟩
  exact .inr (.inr (.inl ⟨rfl, fun i hi => ⟨h1 _ (List.getElem_mem hi), fun h0 => h3 i hi h0⟩, by show nm.size = 0; omega, h2⟩))
theorem own_fn {n : Nat} {nm : ByteArray} {nms : List ByteArray} {ks : List Ty} (h : ownAlone 6 nm nms.length ks.length = true) : OwnRight n (.mk 6 nm nms ks) ↔ 0 < ks.length := by
 rw [ownAlone_iff] at h
 constructor
 ·rintro (⟨h1, _⟩ | ⟨h1, _⟩ | ⟨h1, _⟩ | ⟨_, _, _, h4⟩ | ⟨h1, _⟩)
  ·exact absurd h1 (by show ¬ ((6 : Int) = 0 ∨ (6 : Int) = 1 ∨ (6 : Int) = 2 ∨ (6 : Int) = 3); omega)
  ·exact absurd h1 (by show ¬ (6 : Int) = 4; omega)
  ·exact absurd h1 (by show ¬ (6 : Int) = 5; omega)
  ·exact h4
  ·exact absurd h1 (by show ¬ (6 : Int) = 7; omega)
 ·intro h1
  exact .inr (.inr (.inr (.inl ⟨rfl, by show nm.size = 0; omega, by show nms.length = 0; omega, h1⟩)))
def UKids (ts : List Ty) : Prop := 1 < ts.length ∧ (∀ q ∈ ts, q.kind ≠ 3 ∧ q.kind ≠ 7) ∧ Ascend (ts.map Ty.txt)
theorem own_union {n : Nat} {nm : ByteArray} {nms : List ByteArray} {ks : List Ty} (h : ownAlone 7 nm nms.length ks.length = true) (ht : ∀ k ∈ ks, Ty.text n k = Ty.txt k) : OwnRight n (.mk 7 nm nms ks) ↔ UKids ks := by
 rw [ownAlone_iff] at h
 have hg : ∀ i (hi : i < (ks.map Ty.txt).length) (hi2 : i < ks.length), (ks.map Ty.txt)[i] = Ty.text n ks[i] := fun i hi hi2 => by
  rw [List.getElem_map, ht _ (List.getElem_mem hi2)]
 constructor
 ·rintro (⟨h1, _⟩ | ⟨h1, _⟩ | ⟨h1, _⟩ | ⟨h1, _⟩ | ⟨_, h2, _, _, h5⟩)
  ·exact absurd h1 (by show ¬ ((7 : Int) = 0 ∨ (7 : Int) = 1 ∨ (7 : Int) = 2 ∨ (7 : Int) = 3); omega)
  ·exact absurd h1 (by show ¬ (7 : Int) = 4; omega)
  ·exact absurd h1 (by show ¬ (7 : Int) = 5; omega)
  ·exact absurd h1 (by show ¬ (7 : Int) = 6; omega)
  ·refine ⟨h5, fun q hq => ?_, fun i hi h0 => ?_⟩
   ·obtain ⟨j, hj, rfl⟩ := List.getElem_of_mem hq
    exact ⟨(h2 j hj).1.2, (h2 j hj).1.1⟩
   ·have hik : i < ks.length := by rw [List.length_map] at hi; exact hi
    have := (h2 i hik).2 h0
    rw [hg i hi hik, hg (i - 1) (by omega) (by omega)]
    exact this
 ·rintro ⟨h1, h2, h3⟩
  refine .inr (.inr (.inr (.inr ⟨rfl, fun i hi => ⟨⟨(h2 _ (List.getElem_mem hi)).2, (h2 _ (List.getElem_mem hi)).1⟩, fun h0 => ?_⟩, by show nm.size = 0; omega, by show nms.length = 0; omega, h1⟩)))
  have hi' : i < ks.length := hi
  have hit : i < (ks.map Ty.txt).length := by rw [List.length_map]; exact hi
  have := h3 i hit h0
  rw [hg i hit hi', hg (i - 1) (by omega) (by omega)] at this
  exact this
theorem own_other {n : Nat} {kd : Int} {nm : ByteArray} {nms : List ByteArray} {ks : List Ty} (hk : kd < 0 ∨ 7 < kd) : ¬ OwnRight n (.mk kd nm nms ks) := by
 rintro (⟨h1, _⟩ | ⟨h1, _⟩ | ⟨h1, _⟩ | ⟨h1, _⟩ | ⟨h1, _⟩) <;> simp only at h1 <;> omega
structure Step (C : MkC) (M M' : Mk) (w w' : World) (A : Nat → Prop) : Prop where
 here : MkAt C w' M'
 fr : MkF C w w'
 F : ∃ G, M'.F = M.F ++ G
 T : M'.T = M.T
 extL : ∀ b, M.ext b → M'.ext b
 extR : ∀ b, M'.ext b → M.ext b ∨ A b ∨ w.heap.size ≤ b
theorem Step.refl {C : MkC} {M : Mk} {w : World} (h : MkAt C w M) (A : Nat → Prop) : Step C M M w w A := ⟨h, MkF.refl _ _, ⟨[], by simp⟩, rfl, fun _ h => h, fun _ h => .inl h⟩
theorem Step.trans {C : MkC} {M M1 M2 : Mk} {w w1 w2 : World} {A : Nat → Prop} (h : Step C M M1 w w1 A) (k : Step C M1 M2 w1 w2 A) : Step C M M2 w w2 A := by
 obtain ⟨G, e⟩ := h.F
 obtain ⟨G', e'⟩ := k.F
 refine ⟨k.here, h.fr.trans k.fr, ⟨G ++ G', by rw [e', e, List.append_assoc]⟩, k.T.trans h.T, fun b hb => k.extL b (h.extL b hb), fun b hb => ?_⟩
 rcases k.extR b hb with q | q | q
 ·exact h.extR b q
 ·exact .inr (.inl q)
 ·exact .inr (.inr (Nat.le_trans h.fr.size q))
theorem Step.below {C : MkC} {M M1 : Mk} {w w1 w2 : World} {A : Nat → Prop} (h : Step C M M1 w w1 A) (hb : Below w1.heap.size w1 w2) : Step C M M1 w w2 A := ⟨h.here.below hb, h.fr.trans (MkF.ofBelow hb), h.F, h.T, h.extL, h.extR⟩
theorem Step.alloc {C : MkC} {M M1 : Mk} {w w1 : World} {A : Nat → Prop} (h : Step C M M1 w w1 A) (o : Obj) : Step C M M1 w (w1.alloc o) A := h.below ((Below.refl _ _).alloc (Nat.le_refl _) _)
theorem Step.kids {C : MkC} {M M' : Mk} {w w' : World} {A : Nat → Prop} (h : Step C M M' w w' A) {ks : List Nat} {ts : List Ty} (hk : KidsOf M.F ks ts) : KidsOf M'.F ks ts := by
 obtain ⟨G, e⟩ := h.F
 rw [e]
 exact hk.app
theorem Step.vals {C : MkC} {M M' : Mk} {w w' : World} {A : Nat → Prop} (h : Step C M M' w w' A) {ks : List Nat} {ts : List Ty} (hk : KidsOf M.F ks ts) : ks.map (valAt M'.F) = ks.map (valAt M.F) := by
 obtain ⟨G, e⟩ := h.F
 rw [e]
 exact hk.vals
theorem MkAt.extSame {C : MkC} {M : Mk} {w w' : World} (h : MkAt C w M) (hf : MkF C w w') : SameOn M.ext w w' := ExtOk.sameF (A := M.ext) h.extok hf
end Go.Proofs.YtbojmbeopnlmiaaGreatDoor
namespace Go.Proofs.YtbojmbeopnlmiaaGreatDoor
open Go.RowKit
theorem step_append_own {P : Program} {ops : Array Oper} {o : Oper} {a : Act} {w : World} {K : Act → World → Prop} {Q : Exit → Act → World → Prop} {E : Prop}
  (hg : o.guard = none) (s x : Operand) (t : TypeId) (hop : o.op = Op.call { callee := Callee.builtin Builtin.append, args := #[s, x], argTypes := #[t, t] })
  (base : Nat) (e : TypeId) (i : TypeInfo) (z : Value) (size bytes : Nat) (h1 : P.underlying t = some (.slice e)) (h2 : P.info? e = some i) (h3 : i.zero = some z) (h4 : i.size = size) (h5 : i.bytes = bytes) (h6 : z.cells.size = size) (h7 : 0 < size)
  (v : Value) (n : Nat) (xs : List Value) (hs : a.eval s = v) (hown : w.ownsRow base e size v n xs)
  (ad : Addr) (m c : Nat) (news : List Value) (hx : a.eval x = .slice (some ad) m c) (hn : news.length = m * size) (hc : ∀ j u, news[j]? = some u → w.cell? (ad.add j) = some u) (h1c : ∀ u ∈ news, u.oneCell' = true)
  (b1 : n + m ≤ maxLen) (b2 : (n + m) * bytes ≤ 140737488355328) (b3 : base ≤ w.heap.size)
  (hK : ∀ v' w', w'.ownsRow base e size v' (n + m) (xs ++ news) → w.grownBy w' v.ownBlock → (v' = .slice none 0 0 ↔ v = .slice none 0 0 ∧ m = 0) → K (a.put o.dst v') w') :
  if Region.wanted o (yielded ops a.tmps) = true then Oper.wp P o a w K Q else E := by
 have hw : Region.wanted o (yielded ops a.tmps) = true := by simp [Region.wanted, hg]
 rw [if_pos hw]
 obtain ⟨v', w', hrun, r1, r2, r3⟩ := run_append_own (P := P) w base t o.type e i z size bytes h1 h2 h3 h4 h5 h6 h7 v n xs hown ad m c news hn hc h1c b1 b2 b3
 unfold Oper.wp
 simp [execOp, hop, resolve, invoke, builtin, hs, hx, hrun, Result.andThen]
 exact hK v' w' r1 r2 r3
theorem own_empty {X : World} {B G : Nat} {e : TypeId} (h : X.heap[G]? = some (.cells #[] e (0, 0))) (hB : B ≤ G) : X.ownsRow B e 1 (.slice (some ⟨G, 0, none⟩) 0 0) 0 [] := ⟨rfl, .inr ⟨G, 0, #[], rfl, hB, h, Nat.le_refl _, Nat.zero_le _, rfl, rfl⟩⟩
theorem heap_first (w : World) (A B : Obj) : ((w.alloc A).alloc B).heap[w.heap.size]? = some A := ((MapKept.heap_alloc (w.alloc A) B).2 _ (by simp)).trans (MapKept.heap_alloc w A).1
theorem heap_second (w : World) (A B : Obj) : ((w.alloc A).alloc B).heap[w.heap.size + 1]? = some B := by
 have := (MapKept.heap_alloc (w.alloc A) B).1
 simpa using this
theorem one_cell {X : World} {G : Nat} {s : ByteArray} (h : X.cell? ⟨G, 0, none⟩ = some (.string s)) : ∀ j u, [Value.string s][j]? = some u → X.cell? ((⟨G, 0, none⟩ : Addr).add j) = some u := by
 intro j u hj
 match j, hj with
 | 0, hj => simp at hj; subst hj; simpa [Addr.add] using h
 | j + 1, hj => simp at hj
theorem strV_one (l : List ByteArray) : ∀ u ∈ strV l, u.oneCell' = true := by
 intro u hu
 obtain ⟨x, _, rfl⟩ := List.mem_map.1 hu
 rfl
end Go.Proofs.YtbojmbeopnlmiaaGreatDoor
