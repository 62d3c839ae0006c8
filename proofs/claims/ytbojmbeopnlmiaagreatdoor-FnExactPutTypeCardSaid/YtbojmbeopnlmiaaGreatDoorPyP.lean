/-
  A type's bytes, plainly. No program here.
  The walks of spec.l08Put and spec.PutType.
  The walk of impl.putType.
  The walks of impl.putSize and impl.PutType.
-/
import Derived.Test.YtbojmbeopnlmiaaGreatDoorTxI
import Derived.Test.YtbojmbeopnlmiaaGreatDoorPlain
import Derived.Test.YtbojmbeopnlmiaaGreatDoorRightV
import Derived.Test.YtbojmbeopnlmiaaGreatDoorMkO
import Derived.Test.YtbojmbeopnlmiaaGreatDoorTyH
import Derived.Test.YtbojmbeopnlmiaaGreatDoorMkZ
import Derived.Test.YtbojmbeopnlmiaaGreatDoorWtF
import Derived.Deep.RegionHeld3
namespace Go.Proofs.YtbojmbeopnlmiaaGreatDoor
open Go.RowKit

/-- the kids of a type as bytes, each behind its name where they are named -/
def putRow (f : Ty → List UInt8) (named : Bool) : List ByteArray → List Ty → List UInt8
  | _, [] => []
  | ns, k :: ks => (if named then bt (putT (ns.headD ⟨#[]⟩)) else []) ++ f k ++ putRow f named ns.tail ks
/-- a type's bytes -/
def putTy : Nat → Ty → List UInt8
  | 0, _ => []
  | n + 1, t => UInt8.ofNat t.kind.toNat :: (if t.kind ≤ 3 then [] else if t.kind = 4 then bt (putT t.name) else bt (numB t.kids.length) ++ putRow (putTy n) (decide (t.kind = 5)) t.names t.kids)

theorem putRow_more (f : Ty → List UInt8) (named : Bool) (ns : List ByteArray) (ks : List Ty) (k : Nat) (h : k < ks.length) : putRow f named ns (ks.take (k + 1)) = putRow f named ns (ks.take k) ++ ((if named then bt (putT (ns.getD k ⟨#[]⟩)) else []) ++ f ks[k]) := by
  induction k generalizing ns ks with
  | zero =>
    cases ks with
    | nil => simp at h
    | cons a r => cases ns <;> simp [putRow, List.getD]
  | succ k ih =>
    cases ks with
    | nil => simp at h
    | cons a r =>
      have hk : k < r.length := by simpa using h
      have := ih ns.tail r hk
      rw [List.take_succ_cons, List.take_succ_cons, putRow, putRow, this]
      have e : ns.tail.getD k ⟨#[]⟩ = ns.getD (k + 1) ⟨#[]⟩ := by cases ns <;> simp [List.getD]
      rw [e]
      simp [List.append_assoc]

theorem putT_size (s : ByteArray) : (bt (putT s)).length ≤ 5 + s.size := by
  unfold putT
  split
  · simp [bt]
  · have h1 : (bt (numB s.size ++ s)).length = (numB s.size).size + s.size := ByteArray.size_append
    have h2 := numB_size s.size
    omega
theorem putRow_size (f : Ty → List UInt8) (named : Bool) (ns : List ByteArray) (ks : List Ty) : (putRow f named ns ks).length ≤ 5 * ks.length + Ty.textsBulk ns + (ks.map fun k => (f k).length).sum := by
  induction ks generalizing ns with
  | nil => simp [putRow]
  | cons a r ih =>
    have h1 := ih ns.tail
    have h2 : (if named then bt (putT (ns.headD ⟨#[]⟩)) else []).length ≤ 5 + (ns.headD ⟨#[]⟩).size := by
      split
      · exact putT_size _
      · simp
    have h3 : (ns.headD ⟨#[]⟩).size + Ty.textsBulk ns.tail ≤ Ty.textsBulk ns := by
      cases ns with
      | nil => exact Nat.le_refl 0
      | cons x y => exact Nat.le_refl _
    rw [putRow, List.length_append, List.length_append, List.map_cons, List.sum_cons, List.length_cons]
    omega
theorem putTy_size (n : Nat) : ∀ t, (putTy n t).length ≤ 12 * Ty.bulk n t + 6 := by
  induction n with
  | zero => intro t; simp [putTy]
  | succ n ih =>
    intro t
    rw [putTy, List.length_cons, Ty.bulk]
    split
    · simp
    · split
      · have := putT_size t.name
        omega
      · have h1 := putRow_size (putTy n) (decide (t.kind = 5)) t.names t.kids
        have h2 : (bt (numB t.kids.length)).length ≤ 5 := numB_size _
        have h3 : (t.kids.map fun k => (putTy n k).length).sum ≤ 12 * (t.kids.map (Ty.bulk n)).sum + 6 * t.kids.length := by
          generalize t.kids = l
          induction l with
          | nil => simp
          | cons a r ihl =>
            have := ih a
            simp only [List.map_cons, List.sum_cons, List.length_cons]
            omega
        rw [List.length_append]
        omega

/-- a text of these bytes -/
def mkB (l : List UInt8) : ByteArray := ⟨l.toArray⟩
theorem mkB_size (l : List UInt8) : (mkB l).size = l.length := by simp [mkB, ByteArray.size]
theorem mkB_bt (s : ByteArray) : mkB (bt s) = s := by cases s; simp [mkB, bt]
theorem bt_mkB (l : List UInt8) : bt (mkB l) = l := by simp [mkB, bt]
theorem mkB_app (l : List UInt8) (s : ByteArray) : mkB l ++ s = mkB (l ++ bt s) := by
  apply ByteArray.ext
  simp [mkB, bt]
/-- how far a type's bytes are, behind so many kids -/
def putTo (n : Nat) (t : Ty) (k : Nat) : List UInt8 := UInt8.ofNat t.kind.toNat :: (bt (numB t.kids.length) ++ putRow (putTy n) (decide (t.kind = 5)) t.names (t.kids.take k))
theorem putTo_more (n : Nat) (t : Ty) (k : Nat) (h : k < t.kids.length) : putTo n t (k + 1) = putTo n t k ++ ((if decide (t.kind = 5) = true then bt (putT (t.names.getD k ⟨#[]⟩)) else []) ++ putTy n t.kids[k]) := by
  unfold putTo
  rw [putRow_more _ _ _ _ _ h]
  simp [List.append_assoc]
theorem putTo_all (n : Nat) (t : Ty) (h : 4 < t.kind) : putTo n t t.kids.length = putTy (n + 1) t := by
  unfold putTo
  rw [putTy, List.take_of_length_le (Nat.le_refl _), if_neg (by omega), if_neg (by omega)]
theorem putTo_zero (n : Nat) (t : Ty) : putTo n t 0 = UInt8.ofNat t.kind.toNat :: bt (numB t.kids.length) := by
  unfold putTo
  simp [putRow]
theorem putTo_size (n : Nat) (t : Ty) (k : Nat) : (putTo n t k).length ≤ 12 * Ty.bulk (n + 1) t + 6 := by
  have h2 : (bt (numB t.kids.length)).length ≤ 5 := numB_size _
  have h3 : ((t.kids.take k).map fun q => (putTy n q).length).sum ≤ 12 * (t.kids.map (Ty.bulk n)).sum + 6 * t.kids.length := by
    generalize t.kids = l
    induction l generalizing k with
    | nil => simp
    | cons a r ihl =>
      cases k with
      | zero => simp
      | succ k =>
        have := putTy_size n a
        have := ihl k
        simp only [List.take_succ_cons, List.map_cons, List.sum_cons, List.length_cons]
        omega
  have h1 := putRow_size (putTy n) (decide (t.kind = 5)) t.names (t.kids.take k)
  have h4 : (t.kids.take k).length ≤ t.kids.length := by rw [List.length_take]; omega
  unfold putTo
  rw [List.length_cons, List.length_append, Ty.bulk]
  omega

end Go.Proofs.YtbojmbeopnlmiaaGreatDoor

namespace Go.Proofs.YtbojmbeopnlmiaaGreatDoor
open Go.RowKit

/-- one byte as a text -/
theorem conv_one {w : World} {b : Int} (h0 : 0 ≤ b) : (convert 51 9 (.slice (some ⟨w.heap.size, 0, none⟩) 1 1)).run Tryz.prog (w.alloc (.cells #[.int .u8 b] 5)) = .ok (.string (mkB [UInt8.ofNat b.toNat])) (w.alloc (.cells #[.int .u8 b] 5)) := by
  have h := run_convert_bytes_arg (P := Tryz.prog) (w.alloc (.cells #[.int .u8 b] 5)) 51 5 Tryz.underlying51 Tryz.underlying5 w.heap.size 0 1 1 [b] rfl (fun i hi => by
    match i, hi with
    | 0, _ => simp) 9 Tryz.underlying9
  have e : strOfNums [b] = mkB [UInt8.ofNat b.toNat] := by
    obtain ⟨k, rfl⟩ := Int.eq_ofNat_of_zero_le h0
    apply ByteArray.ext
    simp [strOfNums, mkB]
  rw [e] at h
  exact h
theorem conv_two {w : World} {cs : Array Value} {T : TypeId} {b : Int} (h0 : 0 ≤ b) : (convert 51 9 (.slice (some ⟨w.heap.size + 1, 0, none⟩) 1 1)).run Tryz.prog ((w.alloc (.cells cs T)).alloc (.cells #[.int .u8 b] 5)) = .ok (.string (mkB [UInt8.ofNat b.toNat])) ((w.alloc (.cells cs T)).alloc (.cells #[.int .u8 b] 5)) := by
  have h := conv_one (w := w.alloc (.cells cs T)) h0
  have e : (w.alloc (.cells cs T)).heap.size = w.heap.size + 1 := by simp
  rw [e] at h
  exact h

def SpecPutAt (n : Nat) : Prop := ∀ (cs : List Value) (t : Ty) (d : Int) (w : World), TyAt w n cs t → Right n t d → Ty.bulk n t ≤ 1048576 →
  Calls Tryz.prog 21 #[.agg cs.toArray] w fun e w' => e = .returned (.string (mkB (putTy n t))) ∧ Below w.heap.size w w'

set_option maxHeartbeats 1600000 in
set_option maxRecDepth 100000 in
theorem specPutFew (n : Nat) (kd : Int) (nm : ByteArray) (nms : List ByteArray) (ks : List Ty) (an ak : Option Addr) (ln cn lk ck : Nat) (w : World) (h0 : 0 ≤ kd) (h3 : kd ≤ 3) :
    Calls Tryz.prog 21 #[.agg #[.int .i64 kd, .string nm, .slice an ln cn, .slice ak lk ck]] w fun e w' => e = .returned (.string (mkB (putTy (n + 1) (.mk kd nm nms ks)))) ∧ Below w.heap.size w w' := by
  have hB1 : Below w.heap.size w (w.alloc (.cells #[.int .i64 kd, .string nm, .slice an ln cn, .slice ak lk ck] 30)) := (Below.refl _ _).alloc (Nat.le_refl _) _
  have hP : putTy (n + 1) (.mk kd nm nms ks) = [UInt8.ofNat kd.toNat] := by
    rw [putTy, if_pos (show kd ≤ 3 from h3)]
  rw [hP]
  have hcv := conv_two (w := w) (cs := #[.int .i64 kd, .string nm, .slice an ln cn, .slice ak lk ck]) (T := 30) h0
  have hB2 : Below w.heap.size w ((w.alloc (.cells #[.int .i64 kd, .string nm, .slice an ln cn, .slice ak lk ck] 30)).alloc (.cells #[.int .u8 kd] 5)) := hB1.alloc (by simp) _
  clear hP
  have hk : kd = 0 ∨ kd = 1 ∨ kd = 2 ∨ kd = 3 := by omega
  clear h3 h0
  rcases hk with rfl | rfl | rfl | rfl
  all_goals
    go_enter Tryz.func21, Tryz.ntmps21
    go_wp2_with fail
    go_ret
    exact ⟨rfl, hB2⟩

set_option maxHeartbeats 1600000 in
set_option maxRecDepth 100000 in
theorem specPutName (n : Nat) (nm : ByteArray) (nms : List ByteArray) (ks : List Ty) (an ak : Option Addr) (ln cn lk ck : Nat) (w : World) (hnm : nm.size ≤ 1048576) :
    Calls Tryz.prog 21 #[.agg #[.int .i64 4, .string nm, .slice an ln cn, .slice ak lk ck]] w fun e w' => e = .returned (.string (mkB (putTy (n + 1) (.mk 4 nm nms ks)))) ∧ Below w.heap.size w w' := by
  have hB1 : Below w.heap.size w (w.alloc (.cells #[.int .i64 4, .string nm, .slice an ln cn, .slice ak lk ck] 30)) := (Below.refl _ _).alloc (Nat.le_refl _) _
  have hP : putTy (n + 1) (.mk 4 nm nms ks) = [UInt8.ofNat (4 : Int).toNat] ++ bt (putT nm) := by
    rw [putTy, if_neg (show ¬ (4 : Int) ≤ 3 by omega), if_pos (show (4 : Int) = 4 from rfl)]
    rfl
  rw [hP, ← mkB_app]
  have hcv := conv_two (w := w) (cs := #[.int .i64 4, .string nm, .slice an ln cn, .slice ak lk ck]) (T := 30) (b := 4) (by omega)
  have hB2 : Below w.heap.size w ((w.alloc (.cells #[.int .i64 4, .string nm, .slice an ln cn, .slice ak lk ck] 30)).alloc (.cells #[.int .u8 4] 5)) := hB1.alloc (by simp) _
  have HPT : Hid (∀ wx : World, Calls Tryz.prog 31 #[.string nm] wx fun e w' => e = .returned (.string (putT nm)) ∧ Below wx.heap.size wx w') := fun wx => specPutText nm wx (by omega)
  have hs1 : (mkB [UInt8.ofNat (4 : Int).toNat]).size ≤ 1 := by rw [mkB_size]; simp
  have hs2 : (putT nm).size ≤ 5 + nm.size := putT_size nm
  clear hP
  generalize putT nm = PT at *
  generalize mkB [UInt8.ofNat (4 : Int).toNat] = V at *
  go_enter Tryz.func21, Tryz.ntmps21
  go_wp2_with (go_at_call 31; refine (HPT.out _).mono ?_; rintro e w2 ⟨rfl, hb2⟩)
  go_ret
  exact ⟨rfl, hB2.trans (hb2.mono hB2.size)⟩

set_option maxHeartbeats 1600000 in
set_option maxRecDepth 100000 in
theorem specPutMany (n : Nat) (ih : SpecPutAt n) (kd : Int) (nm : ByteArray) (nms : List ByteArray) (ks : List Ty) (an : Option Addr) (cn : Nat) (vk : Value) (d : Int) (w : World) (hnm : Texts w (.slice an nms.length cn) nms) (hrow : RowAt w (TyAt w n) vk ks) (hR : Right (n + 1) (.mk kd nm nms ks) d) (hb : Ty.bulk (n + 1) (.mk kd nm nms ks) ≤ 1048576) (h4 : 4 < kd) (h7 : kd ≤ 7) :
    Calls Tryz.prog 21 #[.agg #[.int .i64 kd, .string nm, .slice an nms.length cn, vk]] w fun e w' => e = .returned (.string (mkB (putTy (n + 1) (.mk kd nm nms ks)))) ∧ Below w.heap.size w w' := by
  obtain ⟨ak, ck, rfl, hel⟩ := rowOpen hrow
  have hall : putTo n (.mk kd nm nms ks) ks.length = putTy (n + 1) (.mk kd nm nms ks) := putTo_all n _ (by show (4 : Int) < kd; exact h4)
  rw [← hall]
  have hbe : Ty.bulk (n + 1) (.mk kd nm nms ks) = nm.size + (nms.length + Ty.textsBulk nms) + rowBulk n ks := rfl
  have hrb : ks.length + (ks.map (Ty.bulk n)).sum ≤ 1048576 := by unfold rowBulk at hbe; omega
  have hkl : ks.length ≤ 1048576 := by omega
  have hT5 : kd = 5 → ∀ j (h : j < ks.length), ∃ (h2 : j < nms.length) (b off : Nat), an = some ⟨b, off, none⟩ ∧ b < w.heap.size ∧ w.cell? ⟨b, off + j, none⟩ = some (.string nms[j]) := fun e j h => by
    have hf := hR.fine.1
    have hl : nms.length = ks.length := hf (by show kd = 5; exact e)
    rcases hnm with ⟨q, _⟩ | ⟨b, off, cap, q, hc⟩
    · rw [q] at hl
      simp at hl
      omega
    · simp only [Value.slice.injEq] at q
      refine ⟨by omega, b, off, q.1, World.block_lt_of_cell? w ⟨b, off + j, none⟩ (hc j (by omega)), hc j (by omega)⟩
  have HT5 : Hid (type_of% hT5) := hT5
  have HEL : Hid (type_of% hel) := hel
  have HIH : Hid (∀ k (hk : k < ks.length) (cs : List Value) (wx : World), TyAt wx n cs ks[k] → Calls Tryz.prog 21 #[.agg cs.toArray] wx fun e w' => e = .returned (.string (mkB (putTy n ks[k]))) ∧ Below wx.heap.size wx w') := fun k hk cs wx h => ih cs ks[k] (d - 1) wx h (hR.2.1 _ (List.getElem_mem hk)) (by have := kid_bulk n ks k hk; omega)
  have HPT : Hid (∀ (s : ByteArray) (wx : World), s.size ≤ 1048576 → Calls Tryz.prog 31 #[.string s] wx fun e w' => e = .returned (.string (putT s)) ∧ Below wx.heap.size wx w') := fun s wx hs => specPutText s wx (by omega)
  have HPN : Hid (∀ wx : World, Calls Tryz.prog 39 #[.int .i64 (ks.length : Int)] wx fun e w' => e = .returned (.string (numB ks.length)) ∧ Below wx.heap.size wx w') := fun wx => specPutNum_yes ks.length wx (by omega)
  have HMO : Hid (∀ k (h : k < ks.length), putTo n (.mk kd nm nms ks) (k + 1) = putTo n (.mk kd nm nms ks) k ++ ((if decide (kd = 5) = true then bt (putT (nms.getD k ⟨#[]⟩)) else []) ++ putTy n ks[k])) := fun k h => putTo_more n (.mk kd nm nms ks) k h
  have HZ : Hid (putTo n (.mk kd nm nms ks) 0 = [UInt8.ofNat kd.toNat] ++ bt (numB ks.length)) := by
    show _ = _
    have := putTo_zero n (.mk kd nm nms ks)
    simpa using this
  have HSZ : Hid (∀ k, (putTo n (.mk kd nm nms ks) k).length ≤ 12582918) := fun k => by
    have := putTo_size n (.mk kd nm nms ks) k
    omega
  have HKS : Hid (∀ k (h : k < ks.length), (putTy n ks[k]).length ≤ 12582918) := fun k h => by
    have := putTy_size n ks[k]
    have := kid_bulk n ks k h
    omega
  have HNS : Hid (∀ j (h : j < nms.length), nms[j].size ≤ 1048576) := fun j h => by
    have := textsBulk_mem nms nms[j] (List.getElem_mem h)
    omega
  have hB1 : Below w.heap.size w (w.alloc (.cells #[.int .i64 kd, .string nm, .slice an nms.length cn, .slice ak ks.length ck] 30)) := (Below.refl _ _).alloc (Nat.le_refl _) _
  have HBX : Hid (∀ wx : World, Below (w.heap.size + 1) (w.alloc (.cells #[.int .i64 kd, .string nm, .slice an nms.length cn, .slice ak ks.length ck] 30)) wx → (wx.cell? ⟨w.heap.size, 0, none⟩ = some (.int .i64 kd) ∧ wx.cell? ⟨w.heap.size, 1, none⟩ = some (.string nm) ∧ wx.cell? ⟨w.heap.size, 2, none⟩ = some (.slice an nms.length cn) ∧ wx.cell? ⟨w.heap.size, 3, none⟩ = some (.slice ak ks.length ck)) ∧ Below w.heap.size w wx ∧ w.heap.size + 1 ≤ wx.heap.size) := fun wx hx => boxedR hx
  have hcv := conv_two (w := w) (cs := #[.int .i64 kd, .string nm, .slice an nms.length cn, .slice ak ks.length ck]) (T := 30) (b := kd) (by omega)
  have hwr : IntKind.u8.wrap kd = kd := by
    obtain rfl | rfl | rfl : kd = 5 ∨ kd = 6 ∨ kd = 7 := by omega
    all_goals rfl
  have D0 : Below (w.heap.size + 1) (w.alloc (.cells #[.int .i64 kd, .string nm, .slice an nms.length cn, .slice ak ks.length ck] 30)) ((w.alloc (.cells #[.int .i64 kd, .string nm, .slice an nms.length cn, .slice ak ks.length ck] 30)).alloc (.cells #[.int .u8 kd] 5)) := (Below.refl _ _).alloc (by simp) _
  have k0 : (kd == 0) = false := by rw [beq_eq_false_iff_ne]; omega
  have k1 : (kd == 1) = false := by rw [beq_eq_false_iff_ne]; omega
  have k2 : (kd == 2) = false := by rw [beq_eq_false_iff_ne]; omega
  have k3 : (kd == 3) = false := by rw [beq_eq_false_iff_ne]; omega
  have k4 : (kd == 4) = false := by rw [beq_eq_false_iff_ne]; omega
  have K5 : Hid (kd = 5 ∨ kd ≠ 5) := by
    show _ ∨ _
    omega
  have hs1 : (mkB [UInt8.ofNat kd.toNat]).size ≤ 1 := by rw [mkB_size]; simp
  have hs2 : (numB ks.length).size ≤ 5 := numB_size _
  have HV : Hid (mkB [UInt8.ofNat kd.toNat] ++ numB ks.length = mkB (putTo n (.mk kd nm nms ks) 0)) := by
    show _ = _
    rw [HZ.out, mkB_app]
  clear hT5 hel hrow hnm hR hb hall hbe h4 h7 HZ hrb
  generalize hP : putTo n (.mk kd nm nms ks) = P at *
  generalize hNB : numB ks.length = NB at *
  clear hNB hP
  generalize mkB [UInt8.ofNat kd.toNat] = V at *
  go_enter Tryz.func21, Tryz.ntmps21
  go_wp2_with fail
  refine (HPN.out _).mono ?_
  rintro e w2 ⟨rfl, hb2⟩
  have D2 := D0.trans (hb2.mono (by simp))
  obtain ⟨⟨a0, a1, a2, a3⟩, hw2, hz2⟩ := HBX.out w2 D2
  clear hb2 HPN D0 hcv hwr
  go_wp2_with fail
  rw [HV.out]
  clear HV
  go_loopw [3, 4] (fun v i wr => ∃ k : Nat, k ≤ ks.length ∧ i = .int .i64 k ∧ v = .string (mkB (P k)) ∧ Below (w.heap.size + 1) (w.alloc (.cells #[.int .i64 kd, .string nm, .slice an nms.length cn, .slice ak ks.length ck] 30)) wr) (fun _ i _ => ks.length - (intOf i).toNat)
  case atStart => exact ⟨0, Nat.zero_le _, rfl, rfl, D2⟩
  case round =>
    obtain ⟨k, hk, rfl, rfl, Dr⟩ := hrel
    obtain ⟨wo, rfl⟩ : ∃ wo, wo = wr := ⟨_, rfl⟩
    clear a0 a1 a2 a3 hw2 hz2 D2
    obtain ⟨⟨a0, a1, a2, a3⟩, hwo, hzo⟩ := HBX.out wo Dr
    by_cases hlt : k < ks.length
    · obtain ⟨bk, ok, x0, x1, x2, x3, rfl, hbk, hty, q0, q1, q2, q3⟩ := HEL.out k hlt
      have hk0i : (0 : Int) ≤ (k : Int) := by omega
      have hk1i : (k : Int) < (ks.length : Int) := by omega
      have hpk : (mkB (P k)).size ≤ 12582918 := by rw [mkB_size]; exact HSZ.out k
      have hkk : (mkB (putTy n ks[k])).size ≤ 12582918 := by rw [mkB_size]; exact HKS.out k hlt
      have HMK := HMO.out k hlt
      have HC : Hid (∀ wx : World, Below w.heap.size w wx → Calls Tryz.prog 21 #[.agg #[x0, x1, x2, x3]] wx fun e w' => e = .returned (.string (mkB (putTy n ks[k]))) ∧ Below wx.heap.size wx w') := fun wx hx => HIH.out k hlt [x0, x1, x2, x3] wx (hty.below hx)
      rcases K5.out with h5 | h5
      · obtain ⟨hj2, b, off, rfl, hbl, hcn⟩ := HT5.out h5 k hlt
        have k5 : (kd == 5) = true := by rw [beq_iff_eq]; omega
        have hk2i : (k : Int) < (nms.length : Int) := by omega
        have hns := HNS.out k hj2
        have hps : (putT nms[k]).size ≤ 5 + nms[k].size := putT_size _
        have e1 : mkB (P (k + 1)) = mkB (P k) ++ putT nms[k] ++ mkB (putTy n ks[k]) := by
          rw [HMK, if_pos (decide_eq_true (by omega)), mkB_app, mkB_app, bt_mkB]
          congr 1
          rw [List.append_assoc]
          congr 2
          simp [List.getD, hj2]
        have HE1 : Hid (type_of% e1) := e1
        have c0 := (hwo.cell (p := ⟨b, off + k, none⟩) hbl).trans hcn
        have HPT2 : Hid (∀ wx : World, Calls Tryz.prog 31 #[.string nms[k]] wx fun e w' => e = .returned (.string (putT nms[k])) ∧ Below wx.heap.size wx w') := fun wx => HPT.out nms[k] wx hns
        clear HMK e1 HIH HT5 HEL HPT HMO HSZ HKS HNS hcn hty h5
        generalize putT nms[k] = PT at *
        generalize nms[k] = nmk at *
        generalize mkB (putTy n ks[k]) = KB at *
        generalize hPk : mkB (P k) = PK at *
        clear hPk
        go_wp2_with fail
        refine (HPT2.out _).mono ?_
        rintro e w3 ⟨rfl, hb3⟩
        have D3 := Dr.trans (hb3.mono hzo)
        clear a0 a1 a2 a3
        obtain ⟨⟨a0, a1, a2, a3⟩, hw3, hz3⟩ := HBX.out w3 D3
        have r0 := (hw3.cell (p := ⟨bk, ok + k * 4, none⟩) hbk).trans q0
        have r1 := (hw3.cell (p := ⟨bk, ok + k * 4 + 1, none⟩) hbk).trans q1
        have r2 := (hw3.cell (p := ⟨bk, ok + k * 4 + 2, none⟩) hbk).trans q2
        have r3 := (hw3.cell (p := ⟨bk, ok + k * 4 + 3, none⟩) hbk).trans q3
        have HC3 : Hid (type_of% (HC.out w3 hw3)) := HC.out w3 hw3
        clear HC hb3 c0 q0 q1 q2 q3
        have hsz4 : (PK ++ PT).size ≤ 14582918 := by rw [ByteArray.size_append]; omega
        go_wp2_with fail
        refine HC3.out.mono ?_
        rintro e w4 ⟨rfl, hb4⟩
        have D4 := D3.trans (hb4.mono hz3)
        clear HC3 hb4
        go_wp2_with fail
        go_roundw
        case rel => exact ⟨k + 1, by omega, by go_num, by rw [HE1.out], D4⟩
        case measure => simp [intOf]; omega
      · have k5 : (kd == 5) = false := by rw [beq_eq_false_iff_ne]; omega
        have e1 : mkB (P (k + 1)) = mkB (P k) ++ mkB (putTy n ks[k]) := by
          rw [HMK, if_neg (by simp; omega), mkB_app, bt_mkB]
          rfl
        have HE1 : Hid (type_of% e1) := e1
        have r0 := (hwo.cell (p := ⟨bk, ok + k * 4, none⟩) hbk).trans q0
        have r1 := (hwo.cell (p := ⟨bk, ok + k * 4 + 1, none⟩) hbk).trans q1
        have r2 := (hwo.cell (p := ⟨bk, ok + k * 4 + 2, none⟩) hbk).trans q2
        have r3 := (hwo.cell (p := ⟨bk, ok + k * 4 + 3, none⟩) hbk).trans q3
        have HC3 : Hid (type_of% (HC.out wo hwo)) := HC.out wo hwo
        clear HMK e1 HIH HT5 HEL HPT HMO HSZ HKS HNS hty h5 HC q0 q1 q2 q3
        generalize mkB (putTy n ks[k]) = KB at *
        generalize hPk : mkB (P k) = PK at *
        clear hPk
        go_wp2_with fail
        refine HC3.out.mono ?_
        rintro e w4 ⟨rfl, hb4⟩
        have D4 := Dr.trans (hb4.mono hzo)
        clear HC3 hb4
        go_wp2_with fail
        go_roundw
        case rel => exact ⟨k + 1, by omega, by go_num, by rw [HE1.out], D4⟩
        case measure => simp [intOf]; omega
    · obtain rfl : k = ks.length := by omega
      clear HIH HT5 HEL HPT HMO HSZ HKS HNS
      go_wp2_with fail
      go_ret
      exact ⟨rfl, hwo⟩

theorem specPut (n : Nat) : SpecPutAt n := by
  induction n with
  | zero => intro cs t d w h; exact h.elim
  | succ n ih =>
    intro cs t d w h hR hb
    obtain ⟨vn, vk, rfl, _, _, ⟨hT, _, _⟩, _, hrow⟩ := h
    cases t with
    | mk kd nm nms ks =>
      have hk := right_kinds hR
      have hbe : Ty.bulk (n + 1) (.mk kd nm nms ks) = nm.size + (nms.length + Ty.textsBulk nms) + rowBulk n ks := rfl
      obtain ⟨an, cn, rfl⟩ : ∃ a cap, vn = .slice a nms.length cap := by
        rcases hT with ⟨h, a, cap, e⟩ | ⟨b, off, cap, e, hc⟩
        · have h' : nms = [] := h
          subst h'; exact ⟨a, cap, e⟩
        · exact ⟨_, cap, e⟩
      simp only at hk
      by_cases c3 : kd ≤ 3
      · obtain ⟨ak, ck, rfl, _⟩ := rowOpen hrow
        exact specPutFew n kd nm nms ks an ak _ cn _ ck w (by omega) c3
      by_cases c4 : kd = 4
      · subst c4
        obtain ⟨ak, ck, rfl, _⟩ := rowOpen hrow
        exact specPutName n nm nms ks an ak _ cn _ ck w (by omega)
      · exact specPutMany n ih kd nm nms ks an cn vk d w hT hrow hR hb (by omega) (by omega)

/-- PutType's answer -/
def putA (b : Bool) (n : Nat) (t : Ty) : ByteArray := if b then mkB (putTy n t) else ⟨#[]⟩

set_option maxHeartbeats 800000 in
set_option maxRecDepth 100000 in
open Classical in
theorem specPutType (n : Nat) (cs : List Value) (t : Ty) (w : World) (h : TyAt w n cs t) (hb : Ty.bulk n t ≤ 1048576) :
    Calls Tryz.prog 7 #[.agg cs.toArray] w fun e w' => e = .returned (.string (putA (decide (Right n t 12)) n t)) ∧ Below w.heap.size w w' := by
  obtain ⟨x0, x1, x2, x3, rfl⟩ : ∃ x0 x1 x2 x3, cs = [x0, x1, x2, x3] := by
    have hl := h.len
    match cs, hl with
    | [x0, x1, x2, x3], _ => exact ⟨x0, x1, x2, x3, rfl⟩
  have hB1 : Below w.heap.size w (w.alloc (.cells #[x0, x1, x2, x3] 30)) := (Below.refl _ _).alloc (Nat.le_refl _) _
  have HC : Hid (Calls Tryz.prog 20 #[.agg #[x0, x1, x2, x3]] (w.alloc (.cells #[x0, x1, x2, x3] 30)) fun e w' => e = .returned (.bool (decide (Right n t 12))) ∧ Below (w.alloc (.cells #[x0, x1, x2, x3] 30)).heap.size (w.alloc (.cells #[x0, x1, x2, x3] 30)) w') := specTypeOk n _ t _ (h.below hB1) hb
  have HBX : Hid (∀ wx : World, Below (w.heap.size + 1) (w.alloc (.cells #[x0, x1, x2, x3] 30)) wx → (wx.cell? ⟨w.heap.size, 0, none⟩ = some x0 ∧ wx.cell? ⟨w.heap.size, 1, none⟩ = some x1 ∧ wx.cell? ⟨w.heap.size, 2, none⟩ = some x2 ∧ wx.cell? ⟨w.heap.size, 3, none⟩ = some x3) ∧ Below w.heap.size w wx ∧ w.heap.size + 1 ≤ wx.heap.size) := fun wx hx => boxedR hx
  by_cases hr : Right n t 12
  · have HP : Hid (∀ wx : World, Below w.heap.size w wx → Calls Tryz.prog 21 #[.agg #[x0, x1, x2, x3]] wx fun e w' => e = .returned (.string (mkB (putTy n t))) ∧ Below wx.heap.size wx w') := fun wx hx => specPut n _ t 12 wx (h.below hx) hr hb
    rw [decide_eq_true hr] at HC ⊢
    rw [show putA true n t = mkB (putTy n t) from rfl]
    clear h hb hr
    generalize mkB (putTy n t) = V at *
    go_enter Tryz.func7, Tryz.ntmps7
    go_wp2_with fail
    refine HC.out.mono ?_
    rintro e w2 ⟨rfl, hb2⟩
    obtain ⟨⟨a0, a1, a2, a3⟩, hw2, hz2⟩ := HBX.out w2 (hb2.mono (by simp))
    have HP2 : Hid (type_of% (HP.out w2 hw2)) := HP.out w2 hw2
    clear HP HC hb2
    go_wp2_with fail
    refine HP2.out.mono ?_
    rintro e w3 ⟨rfl, hb3⟩
    go_wp2_with fail
    go_ret
    exact ⟨rfl, hw2.trans (hb3.mono hw2.size)⟩
  · rw [decide_eq_false hr] at HC ⊢
    rw [show putA false n t = ⟨#[]⟩ from rfl]
    clear h hb hr
    go_enter Tryz.func7, Tryz.ntmps7
    go_wp2_with fail
    refine HC.out.mono ?_
    rintro e w2 ⟨rfl, hb2⟩
    obtain ⟨_, hw2, _⟩ := HBX.out w2 (hb2.mono (by simp))
    go_wp2_with fail
    go_ret
    exact ⟨rfl, hw2⟩

end Go.Proofs.YtbojmbeopnlmiaaGreatDoor

namespace Go.Proofs.YtbojmbeopnlmiaaGreatDoor
open Go.RowKit Go.Shelf

/-- a base alone -/
def atB (B : Nat) : MkC := ⟨B, 0, 0, 0, 0⟩
theorem block4T {W : World} {b : Nat} {x0 x1 x2 x3 : Value} (h : W.heap[b]? = some (.cells #[x0, x1, x2, x3] 30 (0, 0))) : W.cell? ⟨b, 0, none⟩ = some x0 ∧ W.cell? ⟨b, 1, none⟩ = some x1 ∧ W.cell? ⟨b, 2, none⟩ = some x2 ∧ W.cell? ⟨b, 3, none⟩ = some x3 := by
  refine ⟨?_, ?_, ?_, ?_⟩
  · rw [cell_of_row W b 0 _ _ (0, 0) h]; rfl
  · rw [cell_of_row W b 1 _ _ (0, 0) h]; rfl
  · rw [cell_of_row W b 2 _ _ (0, 0) h]; rfl
  · rw [cell_of_row W b 3 _ _ (0, 0) h]; rfl
/-- a row of these bytes is told, and nothing but rows of bytes has turned -/
def PutPost (B : Nat) (w : World) (L : List UInt8) (e : Ending) (w' : World) : Prop := ∃ v', e = .returned v' ∧ w'.ownsRow B 5 1 v' L.length (Lib.byteCells L) ∧ ByteF (atB B) w w'
def ImplPutAt (n : Nat) : Prop := ∀ (A : Nat → Prop) (B : Nat) (v : Value) (l : List UInt8) (cs : List Value) (t : Ty) (d : Int) (w : World), TyR A w n cs t → (∀ b, A b → b < B) → Right n t d → d ≤ 12 → Ty.bulk n t ≤ 1048576 → B ≤ w.heap.size → w.ownsRow B 5 1 v l.length (Lib.byteCells l) → (l.length : Int) ≤ (20 - d) * 20000000 →
  Calls Tryz.prog 26 #[v, .agg cs.toArray] w (PutPost B w (l ++ putTy n t))

theorem row_str {w : World} {B : Nat} {v : Value} {l : List UInt8} {n : Nat} {s : ByteArray} (h : w.ownsRow B 5 1 v (n + s.size) (Lib.byteCells l ++ Lib.strCells s)) (hn : l.length = n) : w.ownsRow B 5 1 v (l ++ bt s).length (Lib.byteCells (l ++ bt s)) := by
  have e1 : (l ++ bt s).length = n + s.size := by rw [List.length_append, hn]; rfl
  have e2 : Lib.byteCells (l ++ bt s) = Lib.byteCells l ++ Lib.strCells s := by rw [byteCells_app]; rfl
  rw [e1, e2]
  exact h
theorem row_one {w : World} {B : Nat} {v : Value} {l : List UInt8} {n : Nat} {k : Int} (h : w.ownsRow B 5 1 v (n + 1) (Lib.byteCells l ++ [.int .u8 k])) (hn : l.length = n) (h0 : 0 ≤ k) (h7 : k ≤ 7) : w.ownsRow B 5 1 v (l ++ [UInt8.ofNat k.toNat]).length (Lib.byteCells (l ++ [UInt8.ofNat k.toNat])) := by
  have e1 : (l ++ [UInt8.ofNat k.toNat]).length = n + 1 := by rw [List.length_append, hn]; rfl
  have e2 : Lib.byteCells (l ++ [UInt8.ofNat k.toNat]) = Lib.byteCells l ++ [.int .u8 k] := by
    rw [byteCells_app]
    obtain rfl | rfl | rfl | rfl | rfl | rfl | rfl | rfl : k = 0 ∨ k = 1 ∨ k = 2 ∨ k = 3 ∨ k = 4 ∨ k = 5 ∨ k = 6 ∨ k = 7 := by omega
    all_goals rfl
  rw [e1, e2]
  exact h

theorem own_sliceB {w : World} {B e : Nat} {v : Value} {n : Nat} {xs : List Value} (h : w.ownsRow B e 1 v n xs) : ∃ a c, v = .slice a n c := by
  rcases h.2 with ⟨h, h0⟩ | ⟨g, cap, cur, h, _⟩
  · exact ⟨none, 0, by rw [h, h0]⟩
  · exact ⟨_, cap, h⟩
theorem byteF_of {B : Nat} {w w' : World} (h : Below w.heap.size w w') (hB : B ≤ w.heap.size) : ByteF (atB B) w w' := ⟨h.mono hB, fun b _ hb _ _ => (h.block b (Array.getElem?_eq_some_iff.1 hb).1).trans hb⟩
theorem own_on {w w' : World} {B e z : Nat} {v : Value} {n : Nat} {xs : List Value} (h : w.ownsRow B e z v n xs) (hb : Below w.heap.size w w') : w'.ownsRow B e z v n xs := kept_belowT h hb

set_option maxHeartbeats 3200000 in
set_option maxRecDepth 100000 in
theorem implPutStep (n : Nat) (ih : ImplPutAt n) (A : Nat → Prop) (B : Nat) (v : Value) (l : List UInt8) (kd : Int) (nm : ByteArray) (nms : List ByteArray) (ks : List Ty) (an ak : Option Addr) (cn ck : Nat) (d : Int) (w : World) (hTx : TextsR A w (.slice an nms.length cn) nms) (hrow : RowR A w (TyR A w n) (.slice ak ks.length ck) ks) (hA : ∀ b, A b → b < B) (hR : Right (n + 1) (.mk kd nm nms ks) d) (hd : d ≤ 12) (hb : Ty.bulk (n + 1) (.mk kd nm nms ks) ≤ 1048576) (hB : B ≤ w.heap.size) (hor : w.ownsRow B 5 1 v l.length (Lib.byteCells l)) (hl : (l.length : Int) ≤ (20 - d) * 20000000) :
    Calls Tryz.prog 26 #[v, .agg #[.int .i64 kd, .string nm, .slice an nms.length cn, .slice ak ks.length ck]] w (PutPost B w (l ++ putTy (n + 1) (.mk kd nm nms ks))) := by
  obtain ⟨i0, hi0, hz0, hz1, hz2'⟩ := info_parts Tryz.infoByte
  have hd0 : 0 ≤ d := hR.1
  have hkd : (0 ≤ kd ∧ kd ≤ 4) ∨ kd = 5 ∨ kd = 6 ∨ kd = 7 := right_kinds hR
  have hbe : Ty.bulk (n + 1) (.mk kd nm nms ks) = nm.size + (nms.length + Ty.textsBulk nms) + rowBulk n ks := rfl
  have hrb : ks.length + (ks.map (Ty.bulk n)).sum ≤ 1048576 := by unfold rowBulk at hbe; omega
  have hkl : ks.length ≤ 1048576 := by omega
  have hll : l.length ≤ 400000000 := by omega
  obtain ⟨N, hN⟩ : ∃ N, N = l.length := ⟨_, rfl⟩
  have HN : Hid (l.length = N) := hN.symm
  rw [← hN] at hor hll
  obtain ⟨av, cv, rfl⟩ : ∃ a c, v = .slice a N c := by
    rcases hor.2 with ⟨h, h0⟩ | ⟨g, cap, cur, h, _⟩
    · exact ⟨none, 0, by rw [h, h0]⟩
    · exact ⟨_, cap, h⟩
  obtain ⟨W, hW⟩ : ∃ W, W = w.alloc (.cells #[.int .i64 kd, .string nm, .slice an nms.length cn, .slice ak ks.length ck] 30) := ⟨_, rfl⟩
  have hbx : W.heap[w.heap.size]? = some (.cells #[.int .i64 kd, .string nm, .slice an nms.length cn, .slice ak ks.length ck] 30 (0, 0)) := by rw [hW]; exact (MapKept.heap_alloc w _).1
  have hF0 : ByteF (atB B) w W := by rw [hW]; exact (ByteF.refl _ _).alloc hB _
  have hoW : W.ownsRow B 5 1 (.slice av N cv) N (Lib.byteCells l) := by rw [hW]; exact hor.alloc _
  have hBW : B ≤ W.heap.size := Nat.le_trans hB hF0.below.size
  have HBX : Hid (∀ wx : World, ByteF (atB B) W wx → (wx.cell? ⟨w.heap.size, 0, none⟩ = some (.int .i64 kd) ∧ wx.cell? ⟨w.heap.size, 1, none⟩ = some (.string nm) ∧ wx.cell? ⟨w.heap.size, 2, none⟩ = some (.slice an nms.length cn) ∧ wx.cell? ⟨w.heap.size, 3, none⟩ = some (.slice ak ks.length ck)) ∧ ByteF (atB B) w wx ∧ B ≤ wx.heap.size ∧ w.heap.size + 1 ≤ wx.heap.size) := fun wx hx => ⟨block4T (hx.cells hbx (by decide)), hF0.trans hx, Nat.le_trans hBW hx.below.size, Nat.le_trans (by rw [hW]; simp) hx.below.size⟩
  have hb0 : W.heap.size = w.heap.size + 1 := by rw [hW]; simp
  have hwr : IntKind.u8.wrap kd = kd := by
    obtain h | h | h | h | h | h | h | h : kd = 0 ∨ kd = 1 ∨ kd = 2 ∨ kd = 3 ∨ kd = 4 ∨ kd = 5 ∨ kd = 6 ∨ kd = 7 := by omega
    all_goals subst h; rfl
  have HPT : Hid (∀ (s : ByteArray) (wx : World), s.size ≤ 1048576 → Calls Tryz.prog 45 #[.string s] wx fun e w' => e = .returned (.string (putT s)) ∧ Below wx.heap.size wx w') := fun s wx hs => implPutText s wx (by omega)
  have HPN : Hid (∀ wx : World, Calls Tryz.prog 46 #[.int .i64 (ks.length : Int)] wx fun e w' => e = .returned (.string (numB ks.length)) ∧ Below wx.heap.size wx w') := fun wx => implPutNum_yes ks.length wx (by omega)
  have hnm : nm.size ≤ 1048576 := by omega
  have HNS : Hid (∀ j (h : j < nms.length), nms[j].size ≤ 1048576) := fun j h => by
    have := textsBulk_mem nms nms[j] (List.getElem_mem h)
    omega
  have HT5 : Hid (kd = 5 → ∀ j (h : j < ks.length), ∃ (h2 : j < nms.length) (b off : Nat), an = some ⟨b, off, none⟩ ∧ b < B ∧ w.cell? ⟨b, off + j, none⟩ = some (.string nms[j])) := fun e j h => by
    have hf := hR.fine.1
    have hl : nms.length = ks.length := hf (by show kd = 5; exact e)
    rcases hTx with ⟨q, _⟩ | ⟨b, off, cap, q, hAb, hc⟩
    · rw [q] at hl
      simp at hl
      omega
    · simp only [Value.slice.injEq] at q
      exact ⟨by omega, b, off, q.1, hA b hAb, hc j (by omega)⟩
  have HEL : Hid (∀ k (hk : k < ks.length), ∃ bk ok an2 ln2 cn2 ak2 lk2 ck2, ak = some ⟨bk, ok, none⟩ ∧ bk < B ∧ TyR A w n [.int .i64 ks[k].kind, .string ks[k].name, .slice an2 ln2 cn2, .slice ak2 lk2 ck2] ks[k] ∧ w.cell? ⟨bk, ok + k * 4, none⟩ = some (.int .i64 ks[k].kind) ∧ w.cell? ⟨bk, ok + k * 4 + 1, none⟩ = some (.string ks[k].name) ∧ w.cell? ⟨bk, ok + k * 4 + 2, none⟩ = some (.slice an2 ln2 cn2) ∧ w.cell? ⟨bk, ok + k * 4 + 3, none⟩ = some (.slice ak2 lk2 ck2)) := fun k hk => by
    obtain ⟨a9, c9, e9, hel⟩ := rowROpen hrow
    simp only [Value.slice.injEq, true_and] at e9
    obtain ⟨rfl, rfl⟩ := e9
    obtain ⟨b, off, x0, x1, x2, x3, e, hAb, hty, c0, c1, c2, c3⟩ := hel k hk
    obtain ⟨an2, ln2, cn2, ak2, lk2, ck2, ee⟩ := hty.at.shape
    simp only [List.cons.injEq, and_true] at ee
    obtain ⟨rfl, rfl, rfl, rfl⟩ := ee
    exact ⟨b, off, an2, ln2, cn2, ak2, lk2, ck2, e, hA b hAb, hty, c0, c1, c2, c3⟩
  have HIH : Hid (∀ k (hk : k < ks.length) (v : Value) (L : List UInt8) (cs : List Value) (wx : World), TyR A w n cs ks[k] → ByteF (atB B) w wx → wx.ownsRow B 5 1 v L.length (Lib.byteCells L) → L.length ≤ N + 14000000 → Calls Tryz.prog 26 #[v, .agg cs.toArray] wx (PutPost B wx (L ++ putTy n ks[k]))) := fun k hk v L cs wx h hx ho hL =>
    ih A B v L cs ks[k] (d - 1) wx (h.same fun b hb' => hx.below.block b (hA b hb')) hA (hR.2.1 _ (List.getElem_mem hk)) (by omega) (by have := kid_bulk n ks k hk; omega) (Nat.le_trans hB hx.below.size) ho (by rw [hN] at hL; omega)
  have HMO : Hid (∀ k (h : k < ks.length), putTo n (.mk kd nm nms ks) (k + 1) = putTo n (.mk kd nm nms ks) k ++ ((if decide (kd = 5) = true then bt (putT (nms.getD k ⟨#[]⟩)) else []) ++ putTy n ks[k])) := fun k h => putTo_more n (.mk kd nm nms ks) k h
  have HZ : Hid (putTo n (.mk kd nm nms ks) 0 = [UInt8.ofNat kd.toNat] ++ bt (numB ks.length)) := by
    show _ = _
    have := putTo_zero n (.mk kd nm nms ks)
    simpa using this
  have HSZ : Hid (∀ k, (putTo n (.mk kd nm nms ks) k).length ≤ 12582918) := fun k => by
    have := putTo_size n (.mk kd nm nms ks) k
    omega
  have HALL : Hid (4 < kd → putTo n (.mk kd nm nms ks) ks.length = putTy (n + 1) (.mk kd nm nms ks)) := fun h4 => putTo_all n _ (by show (4 : Int) < kd; exact h4)
  have HFEW : Hid (kd ≤ 3 → putTy (n + 1) (.mk kd nm nms ks) = [UInt8.ofNat kd.toNat]) := fun h3 => by
    show _ = _
    rw [putTy, if_pos (show (Ty.mk kd nm nms ks).kind ≤ 3 from h3)]
  have HNAM : Hid (kd = 4 → putTy (n + 1) (.mk kd nm nms ks) = [UInt8.ofNat kd.toNat] ++ bt (putT nm)) := fun h4 => by
    show _ = _
    rw [putTy, if_neg (show ¬ (Ty.mk kd nm nms ks).kind ≤ 3 from fun q => by have : kd ≤ 3 := q; omega), if_pos (show (Ty.mk kd nm nms ks).kind = 4 from h4)]
    rfl
  have HF0 : Hid (type_of% hF0) := hF0
  have HW : Hid (type_of% hW) := hW
  have HA0 : Hid (type_of% hoW) := hoW
  clear hTx hrow hA hR hbe hb hd hl ih hrb hF0 hd0 hW hN hbx hb0 hoW
  generalize putTy (n + 1) (.mk kd nm nms ks) = PT1 at *
  generalize hP : putTo n (.mk kd nm nms ks) = P at *
  clear hP
  go_enter Tryz.func26, Tryz.ntmps26
  go_wp2_with (at_builtin; refine wpList_append_own_at _ rfl _ _ 51 rfl B 5 i0 (.int .u8 0) 1 1 Tryz.underlying51 hi0 hz0 hz1 hz2' rfl (by decide) _ _ _ rfl ((hor.alloc _).alloc _) ⟨w.heap.size + 1, 0, none⟩ 1 1 [.int .u8 kd] rfl rfl ?c1 ?c2 ?c3 ?c4 ?c5 ?_)
  case c1 => exact one_cellK (cellNew 0 (by simp))
  case c2 => intro u hu; simp at hu; subst hu; rfl
  case c3 => unfold maxLen; omega
  case c4 => omega
  case c5 => simp; omega
  intro v1 w1 hown1 hgrow1 _ _
  have hW := HW.out
  rw [← hW] at hgrow1
  clear hW HW
  have hF1 : ByteF (atB B) W w1 := ((ByteF.refl (atB B) W).alloc hBW _).grown (by show B ≤ _; simp; omega) (HA0.out.alloc _) hgrow1
  have hR1 := row_one hown1 HN.out (by omega) (by omega)
  obtain ⟨L1, hL1⟩ : ∃ L1, L1 = l ++ [UInt8.ofNat kd.toNat] := ⟨_, rfl⟩
  have HL1 : Hid (type_of% hL1) := hL1
  rw [← hL1] at hR1
  have hN1 : L1.length = N + 1 := by rw [hL1, List.length_append, HN.out]; rfl
  rw [hN1] at hR1
  have HN1 : Hid (type_of% hN1) := hN1
  clear hgrow1 hown1 hL1 hN1 HA0 hor
  obtain ⟨⟨a0, a1, a2, a3⟩, hFw1, hBw1, hzw1⟩ := HBX.out w1 hF1
  by_cases c3 : kd ≤ 3
  · have HFIN : Hid (PutPost B w (l ++ PT1) (.returned v1) w1) := ⟨v1, rfl, by rw [HFEW.out c3, ← HL1.out, HN1.out]; exact hR1, hFw1⟩
    obtain ⟨av1, cv1, rfl⟩ : ∃ a c, v1 = .slice a (N + 1) c := by
      obtain ⟨g, c, e⟩ := owns_pos hR1 (by omega)
      exact ⟨_, c, e⟩
    clear HPT HPN HNS HT5 HEL HIH HMO HZ HSZ HALL HFEW HNAM HF0 hR1 HBX
    obtain rfl | rfl | rfl | rfl : kd = 0 ∨ kd = 1 ∨ kd = 2 ∨ kd = 3 := by omega
    all_goals
      go_wp2_with fail
      go_ret
      exact HFIN.out
  by_cases c4 : kd = 4
  · have HQ : Hid (PT1 = [UInt8.ofNat kd.toNat] ++ bt (putT nm)) := HNAM.out c4
    have HP1 : Hid (type_of% (HPT.out nm w1 hnm)) := HPT.out nm w1 hnm
    have hps : (putT nm).size ≤ 5 + nm.size := putT_size nm
    have k0 : (kd == 0) = false := by rw [beq_eq_false_iff_ne]; omega
    have k1 : (kd == 1) = false := by rw [beq_eq_false_iff_ne]; omega
    have k2 : (kd == 2) = false := by rw [beq_eq_false_iff_ne]; omega
    have k3 : (kd == 3) = false := by rw [beq_eq_false_iff_ne]; omega
    have k4 : (kd == 4) = true := by rw [beq_iff_eq]; omega
    clear HPT HPN HNS HT5 HEL HIH HMO HZ HSZ HALL HFEW HNAM HF0
    generalize putT nm = X at *
    go_wp2_with fail
    refine HP1.out.mono ?_
    rintro e w2 ⟨rfl, hb2⟩
    have hF2 : ByteF (atB B) W w2 := hF1.trans (byteF_of hb2 hBw1)
    have hR2 := own_on hR1 hb2
    obtain ⟨_, hFw2, hBw2, hzw2⟩ := HBX.out w2 hF2
    clear HP1 hb2 hR1 a0 a1 a2 a3
    go_wp2_with (at_builtin; refine Lib.wpList_append_own_string _ rfl _ _ 51 9 rfl B 5 i0 Tryz.underlying51 Tryz.underlying9 hi0 hz0 hz1 hz2' _ _ _ rfl hR2 _ rfl ?c1 ?c2 ?c3 ?_)
    case c1 => unfold maxLen; omega
    case c2 => omega
    case c3 => exact hBw2
    intro v3 w3 hown3 hgrow3 _
    have hF3 : ByteF (atB B) w w3 := hFw2.grown hBw2 hR2 hgrow3
    have HFIN : Hid (PutPost B w (l ++ PT1) (.returned v3) w3) := by
      refine ⟨v3, rfl, ?_, hF3⟩
      rw [HQ.out, ← List.append_assoc, ← HL1.out]
      exact row_str hown3 HN1.out
    obtain ⟨g3, c3', rfl⟩ := owns_pos hown3 (by omega)
    clear hown3 hgrow3 hF3 hR2 HBX
    go_wp2_with fail
    go_ret
    exact HFIN.out
  · have h4 : 4 < kd := by omega
    have HAL : Hid (P ks.length = PT1) := HALL.out h4
    have HP1 : Hid (type_of% (HPN.out w1)) := HPN.out w1
    have hps : (numB ks.length).size ≤ 5 := numB_size _
    have k0 : (kd == 0) = false := by rw [beq_eq_false_iff_ne]; omega
    have k1 : (kd == 1) = false := by rw [beq_eq_false_iff_ne]; omega
    have k2 : (kd == 2) = false := by rw [beq_eq_false_iff_ne]; omega
    have k3 : (kd == 3) = false := by rw [beq_eq_false_iff_ne]; omega
    have k4 : (kd == 4) = false := by rw [beq_eq_false_iff_ne]; omega
    clear HPN HALL HFEW HNAM HF0
    generalize numB ks.length = X at *
    go_wp2_with fail
    refine HP1.out.mono ?_
    rintro e w2 ⟨rfl, hb2⟩
    have hF2 : ByteF (atB B) W w2 := hF1.trans (byteF_of hb2 hBw1)
    have hR2 := own_on hR1 hb2
    clear a0 a1 a2 a3
    obtain ⟨⟨a0, a1, a2, a3⟩, hFw2, hBw2, hzw2⟩ := HBX.out w2 hF2
    clear HP1 hb2 hR1
    go_wp2_with (at_builtin; refine Lib.wpList_append_own_string _ rfl _ _ 51 9 rfl B 5 i0 Tryz.underlying51 Tryz.underlying9 hi0 hz0 hz1 hz2' _ _ _ rfl hR2 _ rfl ?c1 ?c2 ?c3 ?_)
    case c1 => unfold maxLen; omega
    case c2 => omega
    case c3 => exact hBw2
    intro v3 w3 hown3 hgrow3 _
    have hF3 : ByteF (atB B) W w3 := hF2.grown hBw2 hR2 hgrow3
    have HR3 : Hid (w3.ownsRow B 5 1 v3 (l ++ P 0).length (Lib.byteCells (l ++ P 0))) := by
      show World.ownsRow _ _ _ _ _ _ _
      rw [HZ.out, ← List.append_assoc, ← HL1.out]
      exact row_str hown3 HN1.out
    clear a0 a1 a2 a3
    obtain ⟨⟨a0, a1, a2, a3⟩, hFw3, hBw3, hzw3⟩ := HBX.out w3 hF3
    obtain ⟨g3, c3', rfl⟩ := owns_pos hown3 (by omega)
    clear hown3 hgrow3 hR2 hF2 hFw2 hBw2 hFw1 hF1 hBw1 HZ
    go_wp2_with fail
    go_loopw [0, 37] (fun v i wr => ∃ k : Nat, k ≤ ks.length ∧ i = .int .i64 k ∧ wr.ownsRow B 5 1 v (l ++ P k).length (Lib.byteCells (l ++ P k)) ∧ ByteF (atB B) W wr) (fun _ i _ => ks.length - (intOf i).toNat)
    case atStart => exact ⟨0, Nat.zero_le _, rfl, HR3.out, hF3⟩
    case round =>
      obtain ⟨k, hk, rfl, hor, hFr⟩ := hrel
      obtain ⟨wo, rfl⟩ : ∃ wo, wo = wr := ⟨_, rfl⟩
      clear a0 a1 a2 a3
      obtain ⟨⟨a0, a1, a2, a3⟩, hFwo, hBwo, hzwo⟩ := HBX.out wo hFr
      obtain ⟨LK, hLK⟩ : ∃ LK, LK = l ++ P k := ⟨_, rfl⟩
      rw [← hLK] at hor
      obtain ⟨NK, hNK⟩ : ∃ NK, NK = LK.length := ⟨_, rfl⟩
      rw [← hNK] at hor
      have hNb : NK ≤ N + 12582918 := by
        rw [hNK, hLK, List.length_append, HN.out]
        have := HSZ.out k
        omega
      have HLK : Hid (type_of% hLK) := hLK
      have HNK : Hid (LK.length = NK) := hNK.symm
      clear hLK hNK
      obtain ⟨av, cv, hv⟩ := own_sliceB hor
      subst hv
      by_cases hlt : k < ks.length
      · obtain ⟨bk, ok, an2, ln2, cn2, ak2, lk2, ck2, rfl, hbk, hty, q0, q1, q2, q3⟩ := HEL.out k hlt
        have hk0i : (0 : Int) ≤ (k : Int) := by omega
        have hk1i : (k : Int) < (ks.length : Int) := by omega
        have r0 := (hFwo.below.cell (p := ⟨bk, ok + k * 4, none⟩) hbk).trans q0
        have r1 := (hFwo.below.cell (p := ⟨bk, ok + k * 4 + 1, none⟩) hbk).trans q1
        have r2 := (hFwo.below.cell (p := ⟨bk, ok + k * 4 + 2, none⟩) hbk).trans q2
        have r3 := (hFwo.below.cell (p := ⟨bk, ok + k * 4 + 3, none⟩) hbk).trans q3
        have hbN : (wo.alloc (.cells #[.int .i64 ks[k].kind, .string ks[k].name, .slice an2 ln2 cn2, .slice ak2 lk2 ck2] 30)).heap[wo.heap.size]? = some (.cells #[.int .i64 ks[k].kind, .string ks[k].name, .slice an2 ln2 cn2, .slice ak2 lk2 ck2] 30 (0, 0)) := (MapKept.heap_alloc wo _).1
        have hFN : ByteF (atB B) W (wo.alloc (.cells #[.int .i64 ks[k].kind, .string ks[k].name, .slice an2 ln2 cn2, .slice ak2 lk2 ck2] 30)) := hFr.alloc hBwo _
        have hoN := hor.alloc (.cells #[.int .i64 ks[k].kind, .string ks[k].name, .slice an2 ln2 cn2, .slice ak2 lk2 ck2] 30)
        have HC : Hid (∀ (v : Value) (L : List UInt8) (wx : World), ByteF (atB B) w wx → wx.ownsRow B 5 1 v L.length (Lib.byteCells L) → L.length ≤ N + 14000000 → Calls Tryz.prog 26 #[v, .agg #[.int .i64 ks[k].kind, .string ks[k].name, .slice an2 ln2 cn2, .slice ak2 lk2 ck2]] wx (PutPost B wx (L ++ putTy n ks[k]))) := fun v L wx hx ho hL => HIH.out k hlt v L _ wx hty hx ho hL
        have HMK := HMO.out k hlt
        obtain ⟨⟨e0, e1, e2, e3⟩, _⟩ := HBX.out _ hFN
        clear HIH HEL hty q0 q1 q2 q3
        generalize hKK : ks[k].kind = KK at *
        generalize hKN : ks[k].name = KN at *
        generalize putTy n ks[k] = PK at *
        clear hKK hKN
        by_cases h5 : kd = 5
        · obtain ⟨hj2, b, off, rfl, hbl, hcn⟩ := HT5.out h5 k hlt
          have k5 : (kd == 5) = true := by rw [beq_iff_eq]; omega
          have hk2i : (k : Int) < (nms.length : Int) := by omega
          have hns := HNS.out k hj2
          have hpx : (putT nms[k]).size ≤ 5 + nms[k].size := putT_size _
          have HE1 : Hid (l ++ P (k + 1) = LK ++ bt (putT nms[k]) ++ PK) := by
            show _ = _
            rw [HMK, if_pos (decide_eq_true h5), HLK.out]
            have : nms.getD k ⟨#[]⟩ = nms[k] := by simp [List.getD, hj2]
            rw [this]
            simp [List.append_assoc]
          have hcn0 := (hFwo.below.cell (p := ⟨b, off + k, none⟩) hbl).trans hcn
          have HPT2 : Hid (∀ wx : World, Calls Tryz.prog 45 #[.string nms[k]] wx fun e w' => e = .returned (.string (putT nms[k])) ∧ Below wx.heap.size wx w') := fun wx => HPT.out nms[k] wx hns
          have HCN : Hid (∀ wx : World, ByteF (atB B) w wx → wx.cell? ⟨b, off + k, none⟩ = some (.string nms[k])) := fun wx hx => (hx.below.cell (p := ⟨b, off + k, none⟩) hbl).trans hcn
          have hcnN := HCN.out _ (HBX.out _ hFN).2.1
          clear HMK HT5 HPT HMO HSZ HNS hcn h5
          generalize putT nms[k] = X2 at *
          generalize nms[k] = nmk at *
          go_wp2_with fail
          generalize wo.alloc (.cells #[.int .i64 KK, .string KN, .slice an2 ln2 cn2, .slice ak2 lk2 ck2] 30) = WN at *
          refine (HPT2.out WN).mono ?_
          rintro e w5 ⟨rfl, hb5⟩
          have hBN : B ≤ WN.heap.size := Nat.le_trans hBW hFN.below.size
          have hF5 : ByteF (atB B) WN w5 := byteF_of hb5 hBN
          have hR5 := own_on hoN hb5
          have hB5 : B ≤ w5.heap.size := Nat.le_trans hBN hb5.size
          clear HPT2 hb5 hoN a0 a1 a2 a3 r0 r1 r2 r3 e0 e1 e2 e3 hcn0 hcnN HCN
          go_wp2_with (at_builtin; refine Lib.wpList_append_own_string _ rfl _ _ 51 9 rfl B 5 i0 Tryz.underlying51 Tryz.underlying9 hi0 hz0 hz1 hz2' _ _ _ rfl hR5 _ rfl ?c1 ?c2 ?c3 ?_)
          case c1 => unfold maxLen; omega
          case c2 => omega
          case c3 => exact hB5
          intro v6 w6 hown6 hgrow6 _
          have hF6 : ByteF (atB B) WN w6 := hF5.grown hB5 hR5 hgrow6
          have hR6 := row_str hown6 HNK.out
          have hL6 : (LK ++ bt X2).length ≤ N + 14000000 := by
            rw [List.length_append, HNK.out]
            have : (bt X2).length = X2.size := rfl
            omega
          obtain ⟨av6, cv6, hv6⟩ := own_sliceB hown6
          subst hv6
          obtain ⟨d0, d1, d2, d3⟩ := block4T (hF6.cells hbN (by decide))
          have HC6 : Hid (type_of% (HC.out _ _ w6 ((HBX.out _ hFN).2.1.trans hF6) hR6 hL6)) := HC.out _ _ w6 ((HBX.out _ hFN).2.1.trans hF6) hR6 hL6
          have HF6 : Hid (ByteF (atB B) W w6) := hFN.trans hF6
          clear HC hown6 hgrow6 hR6 hL6 hF6 hF5 hR5 hFN hbN
          generalize LK ++ bt X2 = LX at *
          go_wp2_with fail
          refine HC6.out.mono ?_
          rintro e w7 ⟨v7, rfl, hR7, hF7⟩
          have HFN7 : Hid (ByteF (atB B) W w7) := HF6.out.trans hF7
          have HR7 : Hid (w7.ownsRow B 5 1 v7 (l ++ P (k + 1)).length (Lib.byteCells (l ++ P (k + 1)))) := by rw [HE1.out]; exact hR7
          clear HC6 hR7 hF7 HE1 d0 d1 d2 d3
          go_wp2_with fail
          go_roundw
          case rel => exact ⟨k + 1, by omega, by go_num, HR7.out, HFN7.out⟩
          case measure => simp [intOf]; omega
        · have k5 : (kd == 5) = false := by rw [beq_eq_false_iff_ne]; omega
          have HE1 : Hid (l ++ P (k + 1) = LK ++ PK) := by
            show _ = _
            rw [HMK, if_neg (by simp; omega), HLK.out]
            simp [List.append_assoc]
          clear HMK HT5 HPT HMO HSZ HNS
          go_wp2_with fail
          generalize wo.alloc (.cells #[.int .i64 KK, .string KN, .slice an2 ln2 cn2, .slice ak2 lk2 ck2] 30) = WN at *
          have hR6 : WN.ownsRow B 5 1 (.slice av NK cv) LK.length (Lib.byteCells LK) := by rw [HNK.out]; exact hoN
          refine (HC.out _ LK WN (HBX.out _ hFN).2.1 hR6 (by rw [HNK.out]; omega)).mono ?_
          rintro e w7 ⟨v7, rfl, hR7, hF7⟩
          have HFN7 : Hid (ByteF (atB B) W w7) := hFN.trans hF7
          have HR7 : Hid (w7.ownsRow B 5 1 v7 (l ++ P (k + 1)).length (Lib.byteCells (l ++ P (k + 1)))) := by rw [HE1.out]; exact hR7
          clear HC hR7 hF7 HE1 a0 a1 a2 a3 r0 r1 r2 r3 e0 e1 e2 e3 hR6 hFN hbN hoN hor
          go_wp2_with fail
          go_roundw
          case rel => exact ⟨k + 1, by omega, by go_num, HR7.out, HFN7.out⟩
          case measure => simp [intOf]; omega
      · obtain rfl : k = ks.length := by omega
        have HFIN : Hid (PutPost B w (l ++ PT1) (.returned (.slice av NK cv)) wo) := ⟨_, rfl, by rw [← HAL.out, ← HLK.out, HNK.out]; exact hor, hFwo⟩
        clear HIH HT5 HEL HPT HMO HSZ HNS hor
        go_wp2_with fail
        go_ret
        exact HFIN.out

theorem implPut (n : Nat) : ImplPutAt n := by
  induction n with
  | zero => intro A B v l cs t d w h; exact h.elim
  | succ n ih =>
    intro A B v l cs t d w h hA hR hd hb hB hor hl
    obtain ⟨vn, vk, rfl, _, _, ⟨hT, _, _⟩, _, hrow⟩ := h
    cases t with
    | mk kd nm nms ks =>
      obtain ⟨an, cn, rfl⟩ : ∃ a cap, vn = .slice a nms.length cap := by
        rcases hT with ⟨h, a, cap, e⟩ | ⟨b, off, cap, e, hc⟩
        · have h' : nms = [] := h
          subst h'; exact ⟨a, cap, e⟩
        · exact ⟨_, cap, e⟩
      obtain ⟨ak, ck, rfl, _⟩ := rowROpen hrow
      exact implPutStep n ih A B v l kd nm nms ks an ak cn ck d w hT hrow hA hR hd hb hB hor hl

end Go.Proofs.YtbojmbeopnlmiaaGreatDoor

namespace Go.Proofs.YtbojmbeopnlmiaaGreatDoor
open Go.RowKit Go.Shelf

theorem putTy_pos {n : Nat} {t : Ty} {d : Int} (h : Right n t d) : 0 < (putTy n t).length := by
  cases n with
  | zero => exact h.elim
  | succ n => rw [putTy, List.length_cons]; omega

set_option maxHeartbeats 400000 in
theorem implPutSize (A : Nat → Prop) (root : LE) (w : World) (hA : ∀ b, A b → b < w.heap.size) (hf : root.fits A w) (hn : root.ts ≠ []) (hw : root.wt ≤ 1000000000) (hc : root.cost ≤ 1000000000) :
    Calls Tryz.prog 25 #[root.v] w fun e w' => e = .returned (.int .i64 ((root.wt : Nat) : Int)) ∧ Below w.heap.size w w' := by
  have HW : Hid (type_of% (implWeight A root w hA hf hn hw hc)) := implWeight A root w hA hf hn hw hc
  obtain ⟨a0, cap0, hv0, hop⟩ := LE.open hf
  rw [hv0] at HW ⊢
  clear hop hf hv0 hA hn hw hc
  generalize root.wt = q at *
  generalize root.ts.length = ln at *
  go_enter Tryz.func25, Tryz.ntmps25
  go_wp2_with fail
  refine HW.out.mono ?_
  rintro e w2 ⟨rfl, hb2⟩
  go_wp2_with fail
  go_ret
  exact ⟨rfl, hb2⟩

theorem made_bytes (w : World) (S : Nat) (hS : S ≤ 10000000000) : (Instr.makeSlice 51 (.int .i64 0) (.int .i64 (S : Int))).run Tryz.prog w = .ok (.slice (some ⟨w.heap.size, 0, none⟩) 0 S) (w.alloc (.cells (madeCells #[.int .u8 0] S) 5)) := by
  obtain ⟨i0, hi, hz0, hz1, hz2⟩ := info_parts Tryz.infoByte
  have := run_make (P := Tryz.prog) w 51 5 i0 _ Tryz.underlying51 hi hz0 .i64 .i64 0 (S : Int) (by omega) (by omega) (by rw [hz2]; omega) (by omega)
  rw [hz1] at this
  simpa [Value.cells] using this

/-- one type is a list of one -/
theorem one_fits {A : Nat → Prop} {W : World} {n g : Nat} {x0 x1 x2 x3 : Value} {t : Ty} (h : TyR A W n [x0, x1, x2, x3] t) (hg : W.heap[g]? = some (.cells #[x0, x1, x2, x3] 30 (0, 0))) : LE.fits (fun b => A b ∨ b = g) W ⟨.slice (some ⟨g, 0, none⟩) 1 1, [t], n⟩ := by
  refine .inr ⟨g, 0, 1, rfl, .inr rfl, ⟨_, _, hg⟩, fun j hj => ?_⟩
  have hj0 : j = 0 := by simp at hj; omega
  subst hj0
  refine ⟨[x0, x1, x2, x3], h.sub fun b hb => .inl hb, fun c u hu => ?_⟩
  obtain ⟨c0, c1, c2, c3⟩ := block4T hg
  match c, hu with
  | 0, hu => simp at hu; subst hu; exact c0
  | 1, hu => simp at hu; subst hu; exact c1
  | 2, hu => simp at hu; subst hu; exact c2
  | 3, hu => simp at hu; subst hu; exact c3

set_option maxHeartbeats 3200000 in
set_option maxRecDepth 100000 in
open Classical in
theorem implPutType (n : Nat) (x0 x1 x2 x3 : Value) (t : Ty) (w : World) (A : Nat → Prop) (hA : ∀ b, A b → b < w.heap.size) (h : TyR A w n [x0, x1, x2, x3] t) (hbk : Ty.bulk n t ≤ 1048576) (hc : ClsIs w) (hp : Lib.TabIs Tryz.prog w "internal/strconv.uint64pow10" .u64 Lib.pow10Tab) :
    Calls Tryz.prog 9 #[.agg #[x0, x1, x2, x3]] w fun e w' => e = .returned (.string (putA (decide (Right n t 12)) n t)) ∧ Below w.heap.size w w' := by
  obtain ⟨an, ln, cn, ak, lk, ck, ee⟩ := h.at.shape
  simp only [List.cons.injEq, and_true] at ee
  obtain ⟨rfl, rfl, rfl, rfl⟩ := ee
  have hB1 : Below w.heap.size w (w.alloc (.cells #[.int .i64 t.kind, .string t.name, .slice an ln cn, .slice ak lk ck] 30)) := (Below.refl _ _).alloc (Nat.le_refl _) _
  have hbx1 : (w.alloc (.cells #[.int .i64 t.kind, .string t.name, .slice an ln cn, .slice ak lk ck] 30)).heap[w.heap.size]? = some (.cells #[.int .i64 t.kind, .string t.name, .slice an ln cn, .slice ak lk ck] 30 (0, 0)) := (MapKept.heap_alloc w _).1
  have hzW : (w.alloc (.cells #[.int .i64 t.kind, .string t.name, .slice an ln cn, .slice ak lk ck] 30)).heap.size = w.heap.size + 1 := by simp
  have HOK : Hid (type_of% (implTypeOk n _ _ _ _ t (w.alloc (.cells #[.int .i64 t.kind, .string t.name, .slice an ln cn, .slice ak lk ck] 30)) A (fun b hb => Nat.lt_of_lt_of_le (hA b hb) hB1.size) (h.same fun b hb => hB1.block b (hA b hb)) hbk (hc.below hB1 hc.lt) (Lib.tabBelow_of_tabIs hp _ hB1))) := implTypeOk n _ _ _ _ t (w.alloc (.cells #[.int .i64 t.kind, .string t.name, .slice an ln cn, .slice ak lk ck] 30)) A (fun b hb => Nat.lt_of_lt_of_le (hA b hb) hB1.size) (h.same fun b hb => hB1.block b (hA b hb)) hbk (hc.below hB1 hc.lt) (Lib.tabBelow_of_tabIs hp _ hB1)
  have HBX : Hid (∀ wx : World, Below (w.heap.size + 1) (w.alloc (.cells #[.int .i64 t.kind, .string t.name, .slice an ln cn, .slice ak lk ck] 30)) wx → (wx.cell? ⟨w.heap.size, 0, none⟩ = some (.int .i64 t.kind) ∧ wx.cell? ⟨w.heap.size, 1, none⟩ = some (.string t.name) ∧ wx.cell? ⟨w.heap.size, 2, none⟩ = some (.slice an ln cn) ∧ wx.cell? ⟨w.heap.size, 3, none⟩ = some (.slice ak lk ck)) ∧ Below w.heap.size w wx) := fun wx hx => ⟨block4T ((hx.block w.heap.size (by omega)).trans hbx1), hB1.trans (hx.mono (by omega))⟩
  have hw1 : Ty.wt n t ≤ 1000000000 := by have := wt_le n t; omega
  have hnd : (Ty.nodes n t).length ≤ 2000000 := by have := nodes_len n t; omega
  by_cases hr : Right n t 12
  · have HPS : Hid (∀ wx : World, Below w.heap.size w wx → Calls Tryz.prog 25 #[.slice (some ⟨wx.heap.size, 0, none⟩) 1 1] (wx.alloc (.cells #[.int .i64 t.kind, .string t.name, .slice an ln cn, .slice ak lk ck] 30)) fun e w' => e = .returned (.int .i64 ((Ty.wt n t : Nat) : Int)) ∧ Below (wx.heap.size + 1) (wx.alloc (.cells #[.int .i64 t.kind, .string t.name, .slice an ln cn, .slice ak lk ck] 30)) w') := fun wx hx => by
      have hbx : Below wx.heap.size wx (wx.alloc (.cells #[.int .i64 t.kind, .string t.name, .slice an ln cn, .slice ak lk ck] 30)) := (Below.refl _ _).alloc (Nat.le_refl _) _
      have hfit := one_fits (W := wx.alloc (.cells #[.int .i64 t.kind, .string t.name, .slice an ln cn, .slice ak lk ck] 30)) (g := wx.heap.size) (h.same fun b hb => (hx.trans (hbx.mono hx.size)).block b (hA b hb)) (MapKept.heap_alloc wx _).1
      have := implPutSize _ _ (wx.alloc (.cells #[.int .i64 t.kind, .string t.name, .slice an ln cn, .slice ak lk ck] 30)) (fun b hb => by
        have hz : (wx.alloc (.cells #[.int .i64 t.kind, .string t.name, .slice an ln cn, .slice ak lk ck] 30)).heap.size = wx.heap.size + 1 := by simp
        rcases hb with hb | hb
        · have := hA b hb
          have := hx.size
          omega
        · omega) hfit (by simp) (by show rowWt n [t] ≤ _; rw [rowWt_cons, rowWt_nil]; omega) (by show 3 * (1 + ndRow n [t]) ≤ _; simp only [ndRow, List.map_cons, List.map_nil, List.sum_cons, List.sum_nil]; omega)
      refine this.mono fun e w' h => ⟨?_, by simpa using h.2⟩
      rw [h.1]
      show Ending.returned (Value.int IntKind.i64 ((rowWt n [t] : Nat) : Int)) = _
      rw [rowWt_cons, rowWt_nil, Nat.add_zero]
    have HP : Hid (∀ (B S : Nat) (wx : World), Below w.heap.size w wx → w.heap.size ≤ B → B ≤ wx.heap.size → wx.ownsRow B 5 1 (.slice (some ⟨B, 0, none⟩) 0 S) 0 [] → Calls Tryz.prog 26 #[.slice (some ⟨B, 0, none⟩) 0 S, .agg #[.int .i64 t.kind, .string t.name, .slice an ln cn, .slice ak lk ck]] wx (PutPost B wx (putTy n t))) := fun B S wx hx h1 h2 ho =>
      implPut n A B _ [] _ t 12 wx (h.same fun b hb => hx.block b (hA b hb)) (fun b hb => Nat.lt_of_lt_of_le (hA b hb) h1) hr (by omega) hbk h2 ho (by simp)
    have hpos := putTy_pos hr
    have hps := putTy_size n t
    rw [decide_eq_true hr] at HOK ⊢
    rw [show putA true n t = mkB (putTy n t) from rfl]
    have hmk := made_bytes
    clear h hbk hr hc hp hA hbx1 hB1 hnd
    generalize putTy n t = V at *
    generalize Ty.wt n t = S at *
    generalize t.kind = KK at *
    generalize t.name = KN at *
    go_enter Tryz.func9, Tryz.ntmps9
    go_wp2_with fail
    refine HOK.out.mono ?_
    rintro e w2 ⟨rfl, hb2⟩
    have D2 : Below (w.heap.size + 1) (w.alloc (.cells #[.int .i64 KK, .string KN, .slice an ln cn, .slice ak lk ck] 30)) w2 := hb2.mono (by omega)
    obtain ⟨⟨a0, a1, a2, a3⟩, hw2⟩ := HBX.out w2 D2
    have HPS2 : Hid (type_of% (HPS.out w2 hw2)) := HPS.out w2 hw2
    have hz2 : w.heap.size + 1 ≤ w2.heap.size := by have := hb2.size; omega
    have D3 : Below (w.heap.size + 1) (w.alloc (.cells #[.int .i64 KK, .string KN, .slice an ln cn, .slice ak lk ck] 30)) (w2.alloc (.cells #[.int .i64 KK, .string KN, .slice an ln cn, .slice ak lk ck] 30)) := D2.alloc hz2 _
    have hz3 : (w2.alloc (.cells #[.int .i64 KK, .string KN, .slice an ln cn, .slice ak lk ck] 30)).heap.size = w2.heap.size + 1 := by simp
    clear HOK hb2 HPS hw2 D2
    go_wp2_with fail
    refine HPS2.out.mono ?_
    rintro e w3 ⟨rfl, hb3⟩
    have D4 : Below (w.heap.size + 1) (w.alloc (.cells #[.int .i64 KK, .string KN, .slice an ln cn, .slice ak lk ck] 30)) w3 := D3.trans (hb3.mono (by omega))
    have hz4 : w.heap.size + 1 ≤ w3.heap.size := by have := hb3.size; omega
    clear HPS2 hb3 D3 a0 a1 a2 a3 hz3
    obtain ⟨⟨a0, a1, a2, a3⟩, hw3⟩ := HBX.out w3 D4
    have hnS : ¬ (8589934592 : Int) < (S : Int) := by omega
    have HB3 : Hid (∀ wx : World, Below w3.heap.size w3 wx → wx.cell? ⟨w.heap.size, 0, none⟩ = some (.int .i64 KK) ∧ wx.cell? ⟨w.heap.size, 1, none⟩ = some (.string KN) ∧ wx.cell? ⟨w.heap.size, 2, none⟩ = some (.slice an ln cn) ∧ wx.cell? ⟨w.heap.size, 3, none⟩ = some (.slice ak lk ck)) := fun wx hx => (HBX.out wx (D4.trans (hx.mono hz4))).1
    have HMK : ∀ wx : World, (Instr.makeSlice 51 (.int .i64 0) (.int .i64 (S : Int))).run Tryz.prog wx = .ok (.slice (some ⟨wx.heap.size, 0, none⟩) 0 S) (wx.alloc (.cells (madeCells #[.int .u8 0] S) 5)) := fun wx => hmk wx S (by omega)
    have HOWN : Hid ((w3.alloc (.cells (madeCells #[.int .u8 0] S) 5)).ownsRow w3.heap.size 5 1 (.slice (some ⟨w3.heap.size, 0, none⟩) 0 S) 0 []) := World.ownsRow_made w3 _ S (Nat.le_refl _) (by unfold maxLen; omega) (by simp [madeCells])
    have HP3 : Hid (∀ wx : World, Below w3.heap.size w3 wx → wx.ownsRow w3.heap.size 5 1 (.slice (some ⟨w3.heap.size, 0, none⟩) 0 S) 0 [] → Calls Tryz.prog 26 #[.slice (some ⟨w3.heap.size, 0, none⟩) 0 S, .agg #[.int .i64 KK, .string KN, .slice an ln cn, .slice ak lk ck]] wx (PutPost w3.heap.size wx V)) := fun wx hx ho => HP.out w3.heap.size S wx (hw3.trans (hx.mono hw3.size)) hw3.size hx.size ho
    clear hmk HP HBX D4 hz4 hw1 hzW
    obtain ⟨m0, m1, m2, m3⟩ := HB3.out (w3.alloc (.cells (madeCells #[.int .u8 0] S) 5)) ((Below.refl _ _).alloc (Nat.le_refl _) _)
    go_wp2_with fail
    go_region_with
      ((go_at_call 26; refine (HP3.out _ (by first | exact ((Below.refl _ _).alloc (Nat.le_refl _) _).drew | exact (Below.refl _ _).alloc (Nat.le_refl _) _) (by first | exact kept_belowT HOWN.out (Below.refl _ _).drew | exact HOWN.out)).mono ?_; rintro e w5 ⟨v5, rfl, hown5, hF5⟩; obtain ⟨g5, cap5, rfl⟩ := owns_pos hown5 hpos; have hcv : Sem.run Tryz.prog (convert 51 9 (.slice (some ⟨g5, 0, none⟩) V.length cap5)) w5 = .ok (.string ⟨V.toArray⟩) w5 := run_convert_bytes_back (P := Tryz.prog) w5 _ _ _ ⟨g5, 0, none⟩ cap5 V Tryz.underlying51 Tryz.underlying5 Tryz.underlying9 (fun j hj => hown5.cells (g := g5) rfl j _ (by simp [Lib.byteCells, hj])); have hb5 : Below w3.heap.size w3 w5 := (by first | exact ((Below.refl _ _).alloc (Nat.le_refl _) _).drew.trans hF5.below | exact ((Below.refl _ _).alloc (Nat.le_refl _) _).trans hF5.below)))
    all_goals
      have HF5 : Hid (Below w.heap.size w w5) := hw3.trans (hb5.mono hw3.size)
      clear hown5 hF5 hb5 HB3 HMK HOWN HP3 a0 a1 a2 a3 m0 m1 m2 m3
      go_wp2_with fail
      go_ret
      exact ⟨rfl, HF5.out⟩
  · rw [decide_eq_false hr] at HOK ⊢
    rw [show putA false n t = ⟨#[]⟩ from rfl]
    clear h hbk hr hc hp hA hbx1 hzW hw1 hnd
    generalize t.kind = KK at *
    generalize t.name = KN at *
    go_enter Tryz.func9, Tryz.ntmps9
    go_wp2_with fail
    refine HOK.out.mono ?_
    rintro e w2 ⟨rfl, hb2⟩
    have hw2 := hB1.trans (hb2.mono (by simp))
    clear HOK hb2 HBX
    go_wp2_with fail
    go_ret
    exact ⟨rfl, hw2⟩

end Go.Proofs.YtbojmbeopnlmiaaGreatDoor
