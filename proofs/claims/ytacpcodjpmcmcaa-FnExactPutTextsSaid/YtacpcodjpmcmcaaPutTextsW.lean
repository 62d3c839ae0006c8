/-
  The walks of impl.PutTexts and spec.PutTexts, at texts of together at most 1048576 bytes: each answers the number of texts and each text behind it as bytes, and turns nothing that was there.
-/
import Derived.Test.YtacpcodjpmcmcaaPutTextW
import Derived.Test.YtacpcodjpmcmcaaTextsD
namespace Go.Proofs.Ytacpcodjpmcmcaa
open Go.RowKit

/-- each text with its length ahead of it -/
def flatT : List ByteArray → List ByteArray
  | [] => []
  | t :: r => numB t.size :: t :: flatT r
theorem flatT_append (a b : List ByteArray) : flatT (a ++ b) = flatT a ++ flatT b := by
  induction a with
  | nil => rfl
  | cons t r ih => simp [flatT, ih]
theorem flatT_more (ts : List ByteArray) (k : Nat) (h : k < ts.length) : flatT (ts.take (k + 1)) = flatT (ts.take k) ++ [numB ts[k].size, ts[k]] := by
  rw [List.take_succ_eq_append_getElem h, flatT_append]
  rfl
theorem flatT_length (ts : List ByteArray) : (flatT ts).length = 2 * ts.length := by
  induction ts with
  | nil => rfl
  | cons t r ih => simp [flatT, ih]; omega
theorem catL_flat_le (ts : List ByteArray) : (catL (flatT ts)).length ≤ 5 * ts.length + sumS ts := by
  induction ts with
  | nil => simp [flatT, catL]
  | cons t r ih =>
    have := numB_size t.size
    simp [flatT, catL, sumS]
    omega

/-- PutTexts' answer -/
def partsT (ts : List ByteArray) : List ByteArray := numB ts.length :: flatT ts
def putTs (ts : List ByteArray) : ByteArray := if 200 < ts.length then ⟨#[]⟩ else ⟨(catL (partsT ts)).toArray⟩

theorem numB_pos (n : Nat) : 0 < (numB n).size := by
  have := (Plain.encF_length 4 n).1
  simp [numB, strOfNums_size, ints]
  omega

set_option maxHeartbeats 400000 in
set_option maxRecDepth 100000 in
theorem specPutTexts (v : Value) (ts : List ByteArray) (w : World) (hT : Texts w v ts) (hl : ts.length ≤ 1048576) (hs : sumS ts ≤ 1048576) :
    Calls Try.prog 8 #[v] w fun e w' => e = .returned (.string (putTs ts)) ∧ Below w.heap.size w w' := by
  obtain ⟨a, cap, rfl, hc⟩ : ∃ a cap, v = .slice a ts.length cap ∧ ∀ j (h : j < ts.length), ∃ b off, a = some ⟨b, off, none⟩ ∧ w.cell? ⟨b, off + j, none⟩ = some (.string ts[j]) := by
    rcases hT with ⟨h, a, cap, e⟩ | ⟨b, off, cap, e, hc⟩
    · subst h; exact ⟨a, cap, e, fun j hj => absurd hj (by simp)⟩
    · exact ⟨_, cap, e, fun j hj => ⟨b, off, rfl, hc j hj⟩⟩
  clear hT
  have HC : Hid (∀ j (h : j < ts.length), ∃ b off, a = some ⟨b, off, none⟩ ∧ w.cell? ⟨b, off + j, none⟩ = some (.string ts[j])) := hc
  clear hc
  by_cases h200 : 200 < ts.length
  · rw [show putTs ts = ⟨#[]⟩ from if_pos h200]
    go_enter Try.func8, Try.ntmps8
    go_wp2
    go_ret
    exact ⟨rfl, Below.refl _ _⟩
  · rw [show putTs ts = ⟨(catL (partsT ts)).toArray⟩ from if_neg h200]
    have hd : decide ((200 : Int) < ts.length) = false := by simp; omega
    have HN : Hid (∀ wx : World, Calls Try.prog 12 #[.int .i64 (ts.length : Int)] wx fun e w' => e = .returned (.string (numB ts.length)) ∧ Below wx.heap.size wx w') := fun wx => specPutNum_yes ts.length wx (by omega)
    go_enter Try.func8, Try.ntmps8
    go_wp2_with (go_at_call 12; refine (HN.out _).mono ?_; rintro e w1 ⟨rfl, hb1⟩)
    go_loopw [3, 4] (fun o i wr => ∃ (k : Nat), k ≤ ts.length ∧ i = .int .i64 k ∧ o = .string ⟨(catL (numB ts.length :: flatT (ts.take k))).toArray⟩ ∧ Below w.heap.size w wr) (fun _ i _ => ts.length - (intOf i).toNat)
    case atStart => exact ⟨0, Nat.zero_le _, rfl, by simp [flatT, catL], hb1⟩
    case round =>
      obtain ⟨k, hk, rfl, rfl, hbe⟩ := hrel
      clear hb1
      by_cases hlt : k < ts.length
      · obtain ⟨b, off, rfl, hc0⟩ := HC.out k hlt
        have hblt : b < w.heap.size := World.block_lt_of_cell? w ⟨b, off + k, none⟩ hc0
        have hcell := (hbe.cell (p := ⟨b, off + k, none⟩) hblt).trans hc0
        have hsz : ts[k].size ≤ 1048576 := Nat.le_trans (sumS_mem ts k hlt) hs
        have HM : Hid (catL (numB ts.length :: flatT (ts.take (k + 1))) = catL (numB ts.length :: flatT (ts.take k)) ++ catL [numB ts[k].size, ts[k]]) := by
          show _ = _
          rw [flatT_more ts k hlt, ← List.cons_append, catL_append]
        generalize hp : ts[k] = p at *
        have hVp : putT p = numB p.size ++ p := if_neg (by omega)
        have hVe : (putT p).toList.isEmpty = false := by
          rw [hVp, ByteArray.toList_eq]
          have h1 := numB_pos p.size
          have h2 : 0 < (numB p.size ++ p).data.toList.length := by simp; omega
          cases hq : (numB p.size ++ p).data.toList with
          | nil => rw [hq] at h2; simp at h2
          | cons x r => rfl
        have HP : Hid (putT p = numB p.size ++ p) := hVp
        have hVs : (putT p).size ≤ 1048581 := by rw [hVp]; have := numB_size p.size; simp; omega
        have hcs : (catL (numB ts.length :: flatT (ts.take k))).length ≤ 10000000 := by
          have h1 := catL_flat_le (ts.take k)
          have h2 := sumS_take_le ts k
          have h3 := numB_size ts.length
          simp [catL] at h1 ⊢
          omega
        have HQ : Hid (∀ wx : World, Calls Try.prog 5 #[.string p] wx fun e w' => e = .returned (.string (putT p)) ∧ Below wx.heap.size wx w') := fun wx => specPutText p wx (by omega)
        clear hp hc0 HC hVp
        generalize hcl : catL (numB ts.length :: flatT (ts.take k)) = c at *
        generalize hV : putT p = V at *
        clear hcl hV
        go_wp2_with (go_at_call 5; refine (HQ.out _).mono ?_; rintro e w2 ⟨rfl, hb2⟩)
        have hbe2 : Below w.heap.size w w2 := hbe.trans (hb2.mono hbe.size)
        have HF : Hid ((⟨c.toArray⟩ : ByteArray) ++ V = ⟨(catL (numB ts.length :: flatT (ts.take (k + 1)))).toArray⟩) := by
          show _ = _
          rw [HM.out, HP.out]
          apply ByteArray.ext
          simp [catL]
        go_roundw
        case rel => exact ⟨k + 1, by omega, by go_num, by rw [HF.out], hbe2⟩
        case measure => simp [intOf]; omega
      · have hke : k = ts.length := by omega
        subst hke
        rw [List.take_of_length_le (Nat.le_refl _)]
        go_wp2
        go_ret
        exact ⟨rfl, hbe⟩

theorem below_grown {w w' : World} (h : Below w.heap.size w w') : w.grownBy w' none := ⟨h.os, h.tape, h.output, h.size, fun k hk _ => h.block k hk⟩
theorem strV_append (a b : List ByteArray) : strV (a ++ b) = strV a ++ strV b := by simp [strV]

set_option maxHeartbeats 400000 in
set_option maxRecDepth 100000 in
theorem implPutTexts (v : Value) (ts : List ByteArray) (w : World) (hT : Texts w v ts) (hl : ts.length ≤ 1048576) (hs : sumS ts ≤ 1048576) :
    Calls Try.prog 10 #[v] w fun e w' => e = .returned (.string (putTs ts)) ∧ Below w.heap.size w w' := by
  obtain ⟨i0, hi, hz0, hz1, hz2⟩ := info_parts Try.infoString
  obtain ⟨a, cap, rfl, hc⟩ : ∃ a cap, v = .slice a ts.length cap ∧ ∀ j (h : j < ts.length), ∃ b off, a = some ⟨b, off, none⟩ ∧ w.cell? ⟨b, off + j, none⟩ = some (.string ts[j]) := by
    rcases hT with ⟨h, a, cap, e⟩ | ⟨b, off, cap, e, hc⟩
    · subst h; exact ⟨a, cap, e, fun j hj => absurd hj (by simp)⟩
    · exact ⟨_, cap, e, fun j hj => ⟨b, off, rfl, hc j hj⟩⟩
  clear hT
  have HC : Hid (∀ j (h : j < ts.length), ∃ b off, a = some ⟨b, off, none⟩ ∧ w.cell? ⟨b, off + j, none⟩ = some (.string ts[j])) := hc
  clear hc
  by_cases h200 : 200 < ts.length
  · rw [show putTs ts = ⟨#[]⟩ from if_pos h200]
    go_enter Try.func10, Try.ntmps10
    go_wp2
    go_ret
    exact ⟨rfl, Below.refl _ _⟩
  · rw [show putTs ts = ⟨(catL (partsT ts)).toArray⟩ from if_neg h200]
    have hd : decide ((200 : Int) < ts.length) = false := by simp; omega
    have HN : Hid (∀ wx : World, Calls Try.prog 14 #[.int .i64 (ts.length : Int)] wx fun e w' => e = .returned (.string (numB ts.length)) ∧ Below wx.heap.size wx w') := fun wx => implPutNum_yes ts.length wx (by omega)
    go_enter Try.func10, Try.ntmps10
    go_wp2_with (go_at_call 14; refine (HN.out _).mono ?_; rintro e w1 ⟨rfl, hb1⟩)
    go_loopw [3, 15] (fun o i wr => ∃ (k : Nat), k ≤ ts.length ∧ i = .int .i64 k ∧ wr.ownsRow w.heap.size 9 1 o (numB ts.length :: flatT (ts.take k)).length (strV (numB ts.length :: flatT (ts.take k))) ∧ Below w.heap.size w wr ∧ w.heap.size ≤ wr.heap.size) (fun _ i _ => ts.length - (intOf i).toNat)
    case atStart => exact ⟨0, Nat.zero_le _, rfl, World.ownsRow_lit w1 #[.string (numB ts.length)] 1 hb1.size (by decide) rfl, hb1.alloc hb1.size _, by have := hb1.size; simp; omega⟩
    case round =>
      obtain ⟨k, hk, rfl, hown, hbe, hsz⟩ := hrel
      clear hb1
      by_cases hlt : k < ts.length
      · obtain ⟨b, off, rfl, hc0⟩ := HC.out k hlt
        have hblt : b < w.heap.size := World.block_lt_of_cell? w ⟨b, off + k, none⟩ hc0
        have hcell := (hbe.cell (p := ⟨b, off + k, none⟩) hblt).trans hc0
        have hps : ts[k].size ≤ 1048576 := Nat.le_trans (sumS_mem ts k hlt) hs
        have HM : Hid (numB ts.length :: flatT (ts.take (k + 1)) = (numB ts.length :: flatT (ts.take k)) ++ [numB ts[k].size, ts[k]]) := by
          show _ = _
          rw [flatT_more ts k hlt]
          rfl
        have hrl : (numB ts.length :: flatT (ts.take k)).length ≤ 401 := by
          have := flatT_length (ts.take k)
          simp at this ⊢
          omega
        generalize hp : ts[k] = p at *
        have HQ : Hid (∀ wx : World, Calls Try.prog 14 #[.int .i64 (p.size : Int)] wx fun e w' => e = .returned (.string (numB p.size)) ∧ Below wx.heap.size wx w') := fun wx => implPutNum_yes p.size wx (by omega)
        clear hp hc0 HC
        generalize hcl : (numB ts.length :: flatT (ts.take k)) = c at *
        clear hcl
        generalize hnp : numB p.size = V at *
        clear hnp
        go_wp2_with fail
        refine (HQ.out _).mono ?_
        rintro e w2 ⟨rfl, hb2⟩
        have hown2 := hown.kept (below_grown hb2) (Classical.em _)
        have hbe2 : Below w.heap.size w w2 := hbe.trans (hb2.mono hsz)
        have hsz2 : w.heap.size ≤ w2.heap.size := Nat.le_trans hsz hb2.size
        clear hown hbe hb2 hsz
        go_wp2_with (at_builtin; refine wpList_append_own _ rfl _ _ 24 rfl w.heap.size 9 i0 (.string ⟨#[]⟩) 1 16 Try.underlying24 hi hz0 hz1 hz2 rfl (by decide) _ _ _ rfl (hown2.alloc _) ⟨w2.heap.size, 0, none⟩ 2 2 [.string V, .string p] rfl rfl ?c1 ?c2 ?c3 ?c4 ?c5 ?_)
        case c1 =>
          intro j u hj
          match j, hj with
          | 0, hj => simp at hj; subst hj; simp [Addr.add]
          | 1, hj => simp at hj; subst hj; simp [Addr.add]
        case c2 => intro u hu; simp at hu; rcases hu with rfl | rfl <;> rfl
        case c3 => unfold maxLen; omega
        case c4 => omega
        case c5 => simp; omega
        intro v' w3 hown' hgrow _
        have R1 : w3.ownsRow w.heap.size 9 1 v' (numB ts.length :: flatT (ts.take (k + 1))).length (strV (numB ts.length :: flatT (ts.take (k + 1)))) := by
          rw [HM.out, strV_append, List.length_append]
          exact hown'
        have R2 : Below w.heap.size w w3 := (hbe2.alloc hsz2 _).grown hgrow (by simp; omega) (fun j hj => (hown2.lt j hj).1)
        have R3 : w.heap.size ≤ w3.heap.size := R2.size
        clear hown' hgrow hown2 hbe2 hsz2
        go_wp2
        go_roundw
        case rel => exact ⟨k + 1, by omega, by go_num, R1, R2, R3⟩
        case measure => simp [intOf]; omega
      · have hke : k = ts.length := by omega
        subst hke
        rw [List.take_of_length_le (Nat.le_refl _)] at hown
        obtain ⟨g, cap', hv⟩ : ∃ g cap', u3 = .slice (some ⟨g, 0, none⟩) (partsT ts).length cap' := by
          rcases hown.2 with ⟨_, h⟩ | ⟨g, cap', cur, e, _⟩
          · simp at h
          · exact ⟨g, cap', e⟩
        subst hv
        have hcs : ∀ j (h : j < (partsT ts).length), wr.cell? ⟨g, 0 + j, none⟩ = some (.string (partsT ts)[j]) := fun j hj => by
          rw [Nat.zero_add, hown.cellAt j (by omega)]
          exact strV_get (partsT ts) j hj
        have hcl : (catL (partsT ts)).length ≤ 140737488355328 := by
          have h1 := catL_flat_le ts
          have h3 := numB_size ts.length
          simp [partsT, catL]
          omega
        have hpl : (partsT ts).length ≤ 140737488355328 := by
          have := flatT_length ts
          simp [partsT]
          omega
        have HJ : Hid (Calls Try.prog 13 #[.slice (some ⟨g, 0, none⟩) (partsT ts).length cap'] wr fun e w' => e = .returned (.string ⟨(catL (partsT ts)).toArray⟩) ∧ Below wr.heap.size wr w') := implJoin g 0 cap' (partsT ts) wr hcs hcl hpl
        clear hcs hcl hpl hown
        generalize (partsT ts).length = pl at *
        go_wp2_with (go_at_call 13; refine HJ.out.mono ?_; rintro e w2 ⟨rfl, hb2⟩)
        go_ret
        exact ⟨rfl, hbe.trans (hb2.mono hsz)⟩

end Go.Proofs.Ytacpcodjpmcmcaa
