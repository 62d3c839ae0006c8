/-
  The walks of the law's own helpers markTypeS, markType, heldTypeS and heldType, over types whose layout is known.
-/
import Derived.Test.YtpnalacdgnppmaaLayD
import Derived.Test.YtpnalacdgnppmaaMarkTy
namespace Go.Proofs.Ytpnalacdgnppmaa
open Go.RowKit

/-- how many marks a type takes: to a depth -/
def cntT : Nat → Ty → Nat
  | 0, _ => 0
  | n + 1, t => t.names.length + (t.kids.map fun q => 2 + cntT n q).sum
def cntRow (n : Nat) (ks : List Ty) : Nat := (ks.map fun q => 2 + cntT n q).sum
theorem cntRow_more (n : Nat) (ks : List Ty) (k : Nat) (h : k < ks.length) : cntRow n (ks.take (k + 1)) = cntRow n (ks.take k) + (2 + cntT n ks[k]) := by
  unfold cntRow
  rw [List.take_succ_eq_append_getElem h, List.map_append, List.sum_append]
  simp
theorem cnt_bulk (n : Nat) : ∀ t, cntT n t ≤ 2 * Ty.bulk n t := by
  induction n with
  | zero => intro t; exact Nat.zero_le _
  | succ n ih =>
    intro t
    rw [cntT, Ty.bulk]
    have : (t.kids.map fun q => 2 + cntT n q).sum ≤ 2 * (t.kids.length + (t.kids.map (Ty.bulk n)).sum) := by
      induction t.kids with
      | nil => simp
      | cons k r ihr =>
        have := ih k
        simp only [List.map_cons, List.sum_cons, List.length_cons]
        omega
    omega
theorem cntRow_bulk (n : Nat) (ks : List Ty) : cntRow n ks ≤ 2 * rowBulk n ks := by
  unfold cntRow rowBulk
  induction ks with
  | nil => simp
  | cons k r ihr =>
    have := cnt_bulk n k
    simp only [List.map_cons, List.sum_cons, List.length_cons]
    omega

def marksL (k n : Nat) : List ByteArray := (List.range n).map fun j => markB (k + j)
theorem marksL_len (k n : Nat) : (marksL k n).length = n := by simp [marksL]
theorem marksV_eq (k n : Nat) : marksV k n = strV (marksL k n) := by simp [marksV, strV, marksL]

/-- types in a row, marked -/
def markRow (f : Nat → Ty → Ty) (c : Ty → Nat) : Nat → List Ty → List Ty
  | _, [] => []
  | k, q :: r => f k q :: markRow f c (k + (2 + c q)) r
theorem markRow_len (f : Nat → Ty → Ty) (c : Ty → Nat) (k : Nat) (ks : List Ty) : (markRow f c k ks).length = ks.length := by
  induction ks generalizing k with
  | nil => rfl
  | cons q r ih => simp only [markRow, List.length_cons, ih]
theorem markRow_get (f : Nat → Ty → Ty) (c : Ty → Nat) (k : Nat) (ks : List Ty) (j : Nat) (h : j < ks.length) (h2 : j < (markRow f c k ks).length) : (markRow f c k ks)[j] = f (k + ((ks.take j).map fun q => 2 + c q).sum) ks[j] := by
  induction ks generalizing k j with
  | nil => simp at h
  | cons q r ih =>
    cases j with
    | zero => simp [markRow]
    | succ j =>
      simp only [markRow, List.getElem_cons_succ, List.take_succ_cons, List.map_cons, List.sum_cons]
      rw [ih (k + (2 + c q)) j (by simpa using h)]
      congr 1
      omega
/-- a type among others, marked from k on: to a depth -/
def markT : Nat → Nat → Ty → Ty
  | 0, _, t => t
  | n + 1, k, t => .mk k (markB (k + 1)) (marksL (k + 2) t.names.length) (markRow (markT n) (cntT n) (k + 2 + t.names.length) t.kids)
/-- types in a row, marked from k on -/
def markKs (n k : Nat) (ks : List Ty) : List Ty := markRow (markT n) (cntT n) k ks
theorem markKs_len (n k : Nat) (ks : List Ty) : (markKs n k ks).length = ks.length := markRow_len _ _ _ _
theorem markKs_get (n k : Nat) (ks : List Ty) (j : Nat) (h : j < ks.length) (h2 : j < (markKs n k ks).length) : (markKs n k ks)[j] = markT n (k + cntRow n (ks.take j)) ks[j] := markRow_get _ _ _ _ _ h h2

/-- the first j are marked already -/
def mixK (M ks : List Ty) (j : Nat) : List Ty := M.take j ++ ks.drop j
theorem mixK_len (M ks : List Ty) (j : Nat) (h : M.length = ks.length) : (mixK M ks j).length = ks.length := by
  unfold mixK
  rw [List.length_append, List.length_take, List.length_drop]
  omega
theorem mixK_zero (M ks : List Ty) : mixK M ks 0 = ks := by simp [mixK]
theorem mixK_all (M ks : List Ty) (h : M.length = ks.length) : mixK M ks ks.length = M := by
  unfold mixK
  rw [List.take_of_length_le (by omega), List.drop_eq_nil_of_le (Nat.le_refl _), List.append_nil]
theorem mixK_at (M ks : List Ty) (j : Nat) (h : M.length = ks.length) (hj : j < ks.length) (h2 : j < (mixK M ks j).length) : (mixK M ks j)[j] = ks[j] := by
  have e : (mixK M ks j)[j]? = some ks[j] := by
    unfold mixK
    rw [List.getElem?_append_right (by rw [List.length_take]; omega), List.getElem?_drop, List.length_take, show j + (j - min j M.length) = j from by omega, List.getElem?_eq_getElem hj]
  exact (List.getElem?_eq_some_iff.1 e).2
theorem mixK_set (M ks : List Ty) (j : Nat) (h : M.length = ks.length) (hj : j < M.length) : (mixK M ks j).set j M[j] = mixK M ks (j + 1) := by
  have hl : (M.take j).length = j := by rw [List.length_take]; omega
  unfold mixK
  rw [List.set_append_right _ _ (by omega), hl, Nat.sub_self, List.drop_eq_getElem_cons (by omega), List.set_cons_zero, List.take_succ_eq_append_getElem hj, List.append_assoc]
  rfl
theorem mixK_other (M ks : List Ty) (i j : Nat) (h : M.length = ks.length) (hj : j < M.length) (hne : i ≠ j) (h1 : i < (mixK M ks (j + 1)).length) (h2 : i < (mixK M ks j).length) : (mixK M ks (j + 1))[i] = (mixK M ks j)[i] := by
  have e := mixK_set M ks j h hj
  rw [List.getElem_of_eq e.symm, List.getElem_set_ne (Ne.symm hne)]

set_option maxHeartbeats 400000 in
theorem lawsMarkS (v : Value) (n k0 : Nat) (xs : List Value) (w : World) (hown : OwnS w 9 1 v n xs) (hn : n ≤ 1048577) (hk : 1 ≤ k0) (hk2 : k0 ≤ 1000000000) :
    Calls Try.prog 23 #[v, .int .i64 k0] w fun e w' => e = .returned (.int .i64 ((k0 + n : Nat) : Int)) ∧ OwnS w' 9 1 v n (marksV k0 n) ∧ OnlyL (blk v) w w' := by
  rcases hown with ⟨rfl, hx, a, cap, rfl⟩ | ⟨hpos, hown⟩
  · clear hx
    go_enter Try.func23, Try.ntmps23
    go_wp2
    refine wp_loop_rounds 1 ?_
    rw [rounds_succ]
    go_wp2
    go_ret
    exact ⟨rfl, .inl ⟨rfl, rfl, a, cap, rfl⟩, OnlyL.refl _ _⟩
  · obtain ⟨g, cap, rfl⟩ := slice_ownL (.inr ⟨hpos, hown⟩) hpos
    refine (lawsMarkN _ n 0 g (g + 1) k0 xs w hown (fun g' hg' => by simp [Value.ownBlock] at hg'; omega) hn hk hk2).mono fun e w' hh => ⟨hh.1, .inr ⟨hpos, hh.2.1⟩, OnlyL.of_only hh.2.2 fun b h1 h2 => (mem_blk hpos).2 (by show b = g; omega)⟩

set_option maxHeartbeats 400000 in
theorem lawsHeldS (v : Value) (n k0 : Nat) (w : World) (hown : OwnS w 9 1 v n (marksV k0 n)) (hn : n ≤ 1048577) (hk : 1 ≤ k0) (hk2 : k0 ≤ 1000000000) :
    Calls Try.prog 25 #[v, .int .i64 k0] w fun e w' => e = .returned (.int .i64 ((k0 + n : Nat) : Int)) ∧ Below w.heap.size w w' := by
  rcases hown with ⟨rfl, hx, a, cap, rfl⟩ | ⟨hpos, hown⟩
  · clear hx
    go_enter Try.func25, Try.ntmps25
    go_wp2
    refine wp_loop_rounds 1 ?_
    rw [rounds_succ]
    go_wp2
    go_ret
    exact ⟨rfl, Below.refl _ _⟩
  · exact lawsHeldN v n 0 k0 w hown hn hk hk2

/-- one of a row is marked: what the row holds then -/
theorem row_marked {n : Nat} {v : Value} {ls : List Lay} {ks M : List Ty} {j g cap kk : Nat} {wr w2 w4 w5 : World} (hM : M.length = ks.length) (hj : j < ks.length) (hMj : M[j]'(by omega) = markT (n + 1) kk ks[j])
    (hrow : RowL wr (n + 1) v ls (mixK M ks j)) (hap : (rowBlocks (n + 1) v ls).Nodup) (hv : v = .slice (some ⟨g, 0, none⟩) ks.length cap)
    (hb2 : Below (wr.setCell ⟨g, j * 4, none⟩ (.int .i64 kk)).heap.size (wr.setCell ⟨g, j * 4, none⟩ (.int .i64 kk)) w2)
    (hl : j < ls.length)
    (hn4 : OwnS w4 9 1 ls[j].vn ks[j].names.length (marksV (kk + 2) ks[j].names.length)) (on4 : OnlyL (blk ls[j].vn) (w2.setCell ⟨g, j * 4 + 1, none⟩ (.string (markB (kk + 1)))) w4)
    (hk5 : RowL w5 n ls[j].vk ls[j].ks (markKs n (kk + 2 + ks[j].names.length) ks[j].kids)) (on5 : OnlyL (rowBlocks n ls[j].vk ls[j].ks) w4 w5) :
    RowL w5 (n + 1) v ls (mixK M ks (j + 1)) ∧ OnlyL (rowBlocks (n + 1) v ls) wr w5 := by
  obtain ⟨a1, a2, a3⟩ := row_apart hap
  obtain ⟨p1, p2⟩ := lay_apart (a3 j hl)
  have hgv : g ∈ blk v := by rw [hv]; exact (mem_blk (by omega)).2 rfl
  have hlm := mixK_len M ks j hM
  have hlm2 := mixK_len M ks (j + 1) hM
  have hll := hrow.1
  have hsz : (wr.setCell ⟨g, j * 4, none⟩ (.int .i64 kk)).heap.size = wr.heap.size := by simp
  have hz2 : wr.heap.size ≤ w2.heap.size := by have := hb2.size; rw [hsz] at this; exact this
  have hz3 : wr.heap.size ≤ (w2.setCell ⟨g, j * 4 + 1, none⟩ (.string (markB (kk + 1)))).heap.size := by simpa using hz2
  have hz4 : wr.heap.size ≤ w4.heap.size := Nat.le_trans hz3 on4.size
  have hon2 : OnlyL (rowBlocks (n + 1) v ls) wr (w2.setCell ⟨g, j * 4 + 1, none⟩ (.string (markB (kk + 1)))) := ((OnlyL.set wr _ _ (List.mem_append_left _ hgv)).trans (OnlyL.of_below hb2)).trans (OnlyL.set w2 _ _ (List.mem_append_left _ hgv))
  have keep : ∀ b, b < wr.heap.size → b ≠ g → b ∉ Lay.blocks (n + 1) ls[j] → w5.heap[b]? = wr.heap[b]? := fun b hb hg hm => by
    rw [on5.block b (by omega) fun h => hm (mem_lay_row h), on4.block b (by omega) fun h => hm (mem_lay_names h), Below.heap_setCell _ _ _ _ (by simpa using hg), hb2.block b (by rw [hsz]; exact hb), Below.heap_setCell _ _ _ _ (by simpa using hg)]
  refine ⟨⟨by omega, ?_, fun i hi1 hi2 => ?_⟩, (hon2.trans (on4.mono fun x hx => mem_rowBlocks hl (mem_lay_names hx))).trans (on5.mono fun x hx => mem_rowBlocks hl (mem_lay_row hx))⟩
  · have r0' := hrow.2.1
    rw [hlm] at r0'
    have r0 := r0'.pos (by omega)
    rw [hlm2]
    have r1' : (w2.setCell ⟨g, j * 4 + 1, none⟩ (.string (markB (kk + 1)))).ownsRow 0 27 4 v ks.length (flatK (mixK M ks (j + 1)) ls) := by
      rw [hv] at r0 ⊢
      obtain ⟨s1, _⟩ := r0.stored (j * 4) (.int .i64 kk)
      have s2 := kept_belowT s1 hb2
      obtain ⟨s3, _⟩ := s2.stored (j * 4 + 1) (.string (markB (kk + 1)))
      have e := flatK_set (mixK M ks j) ls j (M[j]'(by omega)) (by omega) hl
      rw [hMj] at e
      rw [show ((markT (n + 1) kk ks[j]).kind) = (kk : Int) from rfl, show ((markT (n + 1) kk ks[j]).name) = markB (kk + 1) from rfl, ← hMj, mixK_set M ks j hM (by omega)] at e
      rw [← e]
      exact s3
    have r1 : OwnS (w2.setCell ⟨g, j * 4 + 1, none⟩ (.string (markB (kk + 1)))) 27 4 v ks.length (flatK (mixK M ks (j + 1)) ls) := .inr ⟨by omega, r1'⟩
    refine owns_same r1 fun b hb => ?_
    have : b = g := by rw [hv, mem_blk (by omega)] at hb; exact hb
    subst this
    have hbl := owns_lt r1 hb
    rw [on5.block b (Nat.lt_of_lt_of_le hbl on4.size) fun h => a1 b hb j hl (mem_lay_row h), on4.block b hbl fun h => a1 b hb j hl (mem_lay_names h)]
  · by_cases c : i = j
    · subst c
      have e : (mixK M ks (i + 1))[i] = markT (n + 1) kk ks[i] := by
        rw [List.getElem_of_eq (mixK_set M ks i hM (by omega)).symm, List.getElem_set_self, hMj]
      rw [e]
      refine ⟨?_, ?_, ?_, ?_⟩
      · show OwnS w5 9 1 ls[i].vn (marksL (kk + 2) ks[i].names.length).length (strV (marksL (kk + 2) ks[i].names.length))
        rw [marksL_len, ← marksV_eq]
        exact owns_same hn4 fun b hb => on5.block b (owns_lt hn4 hb) (p1 b hb)
      · exact hk5.1
      · exact hk5.2.1
      · exact hk5.2.2
    · rw [mixK_other M ks i j hM (by omega) c hi2 (by omega)]
      have h0 := hrow.2.2 i hi1 (by omega)
      exact h0.same fun b hb => keep b (h0.lt hb) (fun e => a1 g hgv i hi1 (e ▸ hb)) (a2 i j hi1 hl c b hb)

set_option maxHeartbeats 1600000 in
set_option maxRecDepth 100000 in
theorem lawsMarkRowL (n : Nat) : ∀ (v : Value) (ls : List Lay) (ks : List Ty) (k0 : Nat) (w : World), RowL w n v ls ks → (rowBlocks n v ls).Nodup → rowBulk n ks ≤ 1048576 → 1 ≤ k0 → k0 + 2 * rowBulk n ks ≤ 1000000000 →
    Calls Try.prog 24 #[v, .int .i64 k0] w fun e w' => e = .returned (.int .i64 ((k0 + cntRow n ks : Nat) : Int)) ∧ RowL w' n v ls (markKs n k0 ks) ∧ OnlyL (rowBlocks n v ls) w w' := by
  induction n using Nat.strongRecOn with
  | ind n ih =>
    intro v ls ks k0 w hrow hap hbk hk1 hk2
    have hkl : ks.length ≤ 1048576 := by unfold rowBulk at hbk; omega
    obtain ⟨av, cv, rfl⟩ := hrow.2.1.slice
    have IH : Hid (type_of% ih) := ih
    have HML : Hid ((markKs n k0 ks).length = ks.length) := markKs_len n k0 ks
    have HMG : Hid (∀ j (h : j < ks.length) (h2 : j < (markKs n k0 ks).length), (markKs n k0 ks)[j] = markT n (k0 + cntRow n (ks.take j)) ks[j]) := fun j h h2 => markKs_get n k0 ks j h h2
    have H0 : Hid (RowL w n (.slice av ks.length cv) ls (mixK (markKs n k0 ks) ks 0)) := by show RowL _ _ _ _ _; rw [mixK_zero]; exact hrow
    have HLL : Hid (ls.length = ks.length) := hrow.1
    have HAP : Hid (type_of% hap) := hap
    clear ih hrow hap
    generalize markKs n k0 ks = M at *
    go_enter Try.func24, Try.ntmps24
    go_wp2_with fail
    go_loopw [1, 5] (fun kv i wr => ∃ j kk : Nat, j ≤ ks.length ∧ i = .int .i64 j ∧ kv = .int .i64 kk ∧ Hid (kk = k0 + cntRow n (ks.take j)) ∧ RowL wr n (.slice av ks.length cv) ls (mixK M ks j) ∧ OnlyL (rowBlocks n (.slice av ks.length cv) ls) w wr) (fun _ i _ => ks.length - (intOf i).toNat)
    case atStart => exact ⟨0, k0, Nat.zero_le _, rfl, rfl, (show k0 = k0 + cntRow n (ks.take 0) by simp [cntRow]), H0.out, OnlyL.refl _ _⟩
    case round =>
      obtain ⟨j, kk, hj, rfl, rfl, HKK, hrow, hon⟩ := hrel
      clear H0
      have HROW : Hid (type_of% hrow) := hrow
      clear hrow
      have hwz : w.heap.size ≤ wr.heap.size := hon.size
      by_cases hlt : j < ks.length
      · have hlj : j < ls.length := by have := HLL.out; omega
        have hjM : j < M.length := by have := HML.out; omega
        have hlm := mixK_len M ks j HML.out
        have hL := HROW.out.2.2 j hlj (by omega)
        have hat := mixK_at M ks j HML.out hlt (by omega)
        rw [hat] at hL
        have hmore := rowBulk_more n ks j hlt
        have hle := rowBulk_le n ks (j + 1)
        have hcb := cntRow_bulk n (ks.take j)
        have hkkb : kk ≤ k0 + 2 * rowBulk n (ks.take j) := by have := HKK.out; omega
        obtain ⟨g, cap, hv⟩ := slice_ownL HROW.out.2.1 (by omega)
        rw [hlm] at hv
        simp only [Value.slice.injEq, true_and] at hv
        obtain ⟨rfl, rfl⟩ := hv
        cases n with
        | zero => exact hL.elim
        | succ m =>
          have hce : ∀ c, c < 4 → wr.cell? ⟨g, j * 4 + c, none⟩ = (cellsK ks[j] ls[j])[c]? := fun c hc => by
            have r' := HROW.out.2.1
            rw [hlm] at r'
            have r := r'.pos (by omega)
            rw [r.cellAt (j * 4 + c) (by omega), flatK_get _ _ j c (by omega) hlj hc, hat]
          have a0 : wr.cell? ⟨g, j * 4, none⟩ = some (.int .i64 ks[j].kind) := hce 0 (by omega)
          have a1 : wr.cell? ⟨g, j * 4 + 1, none⟩ = some (.string ks[j].name) := hce 1 (by omega)
          have a2 : wr.cell? ⟨g, j * 4 + 2, none⟩ = some ls[j].vn := hce 2 (by omega)
          have a3 : wr.cell? ⟨g, j * 4 + 3, none⟩ = some ls[j].vk := hce 3 (by omega)
          have hfz : ∀ o, wr.frozen? ⟨g, o, none⟩ = false := fun o => by
            have r' := HROW.out.2.1
            rw [hlm] at r'
            exact (r'.pos (by omega)).frozenAt o
          have hbk2 : t_bulk ks[j] m := by unfold t_bulk; rw [Ty.bulk]; unfold rowBulk; omega
          unfold t_bulk at hbk2
          have hgv : g ∈ blk (.slice (some ⟨g, 0, none⟩) ks.length cv) := (mem_blk (by omega)).2 rfl
          have hbw : g < wr.heap.size := owns_lt HROW.out.2.1 hgv
          obtain ⟨ap1, ap2, ap3⟩ := row_apart HAP.out
          obtain ⟨lp1, lp2⟩ := lay_apart (ap3 j hlj)
          have hf0 := hfz (j * 4)
          have HMT : Hid (∀ wx : World, Calls Try.prog 22 #[.int .i64 ((kk : Int) + 1)] wx fun e w' => e = .returned (.string (markB (kk + 1))) ∧ Below wx.heap.size wx w') := fun wx => by
            have := lawsMark (kk + 1) wx (by omega) (by omega)
            rw [show (((kk + 1 : Nat)) : Int) = (kk : Int) + 1 from by omega] at this
            exact this
          have HMJ : Hid (M[j] = markT (m + 1) kk ks[j]) := by show _ = _; rw [HMG.out j hlt hjM, HKK.out]
          have HKK2 : Hid (kk + 2 + ks[j].names.length + cntRow m ks[j].kids = k0 + cntRow (m + 1) (ks.take (j + 1))) := by
            show _ = _
            rw [cntRow_more _ _ _ hlt, HKK.out, cntT]
            unfold cntRow
            omega
          obtain ⟨an, cn, hvn⟩ := hL.1.slice
          obtain ⟨ak, ck, hvk⟩ := hL.2.2.1.slice
          have HVN : Hid (ls[j].vn = .slice an ks[j].names.length cn) := hvn
          have HVK : Hid (ls[j].vk = .slice ak ks[j].kids.length ck) := hvk
          have hcb2 := cntRow_bulk m ks[j].kids
          rw [hvn] at a2
          rw [hvk] at a3
          have HLA : Hid (type_of% hL) := hL
          clear hL hvn hvk hce HMG
          go_wp2_with fail
          refine (HMT.out _).mono ?_
          rintro e w2 ⟨rfl, hb2⟩
          obtain ⟨t1, t2, t3, t4, t5⟩ := two_set (o := j * 4) (u2 := .string (markB (kk + 1))) hbw hb2
          have b1 : w2.cell? ⟨g, j * 4 + 1, none⟩ = some (.string ks[j].name) := by
            rw [hb2.cell (p := ⟨g, j * 4 + 1, none⟩) (by simpa using hbw), set_other (by omega)]
            exact a1
          have f1 : w2.frozen? ⟨g, j * 4 + 1, none⟩ = false := by
            rw [hb2.frozen (p := ⟨g, j * 4 + 1, none⟩) (by simpa using hbw), World.frozen?_setCell]
            exact hfz _
          have c2 := (t1 (j * 4 + 2) (by omega) (by omega)).trans a2
          have c3 := (t1 (j * 4 + 3) (by omega) (by omega)).trans a3
          have hgn : ∀ b ∈ Lay.blocks (m + 1) ls[j], b ≠ g := fun b hb e => ap1 g hgv j hlj (e ▸ hb)
          have HL3 : LayAt (w2.setCell ⟨g, j * 4 + 1, none⟩ (.string (markB (kk + 1)))) (m + 1) ls[j] ks[j] := HLA.out.same fun b hb => t3 b (hgn b hb) (HLA.out.lt hb)
          have HN3 := HL3.1
          have HC0 := lawsMarkS _ ks[j].names.length (kk + 2) _ _ HN3 (by omega) (by omega) (by omega)
          rw [show (((kk + 2 : Nat)) : Int) = (kk : Int) + 2 from by omega, HVN.out] at HC0
          have HC : Hid (type_of% HC0) := HC0
          have HL3' : Hid (type_of% HL3) := HL3
          clear HC0 HN3 HMT HL3
          go_wp2_with fail
          refine HC.out.mono ?_
          rintro e w4 ⟨rfl, hn4, on4⟩
          rw [← HVN.out] at on4
          have d3 : w4.cell? ⟨g, j * 4 + 3, none⟩ = some (.slice ak ks[j].kids.length ck) := cell_same c3 (on4.block g (by omega) fun h => ap1 g hgv j hlj (mem_lay_names h))
          have HK4 : RowL w4 m ls[j].vk ls[j].ks ks[j].kids := HL3'.out.row.same fun b hb => on4.block b (HL3'.out.row.lt hb) fun h => lp1 b h hb
          have hz4 : wr.heap.size ≤ w4.heap.size := Nat.le_trans t4 on4.size
          have HC5 := IH.out m (by omega) _ _ _ (kk + 2 + ks[j].names.length) w4 HK4 lp2 (by omega) (by omega) (by omega)
          rw [show (((kk + 2 + ks[j].names.length : Nat)) : Int) = (kk : Int) + 2 + ks[j].names.length from by omega, HVK.out] at HC5
          have HC6 : Hid (type_of% HC5) := HC5
          clear HC5 HC HK4
          go_wp2_with fail
          refine HC6.out.mono ?_
          rintro e w5 ⟨rfl, hk5, on5⟩
          rw [← HVK.out] at hk5 on5
          rw [← HVN.out] at hn4
          obtain ⟨R1, R2⟩ := row_marked HML.out hlt HMJ.out HROW.out HAP.out rfl hb2 hlj hn4 on4 hk5 on5
          have HR1 : Hid (type_of% R1) := R1
          have R3 := hon.trans R2
          have hk5b : kk + 2 + ks[j].names.length + cntRow m ks[j].kids ≤ 2000000000 := by omega
          clear on4 on5 t1 t2 t3 t5 R1 HROW HC6 c2 c3 d3 hk5 hn4 HLA HL3' ap1 ap2 ap3 lp1 lp2 hb2 R2
          go_wp2_with fail
          go_roundw
          case rel => exact ⟨j + 1, _, by omega, by go_num, rfl, HKK2, HR1.out, R3⟩
          case measure => simp [intOf]; omega
      · have hke : j = ks.length := by omega
        have HF : Hid (kk = k0 + cntRow n ks ∧ RowL wr n (.slice av ks.length cv) ls M) := by
          have h1 := HKK.out
          have h2 := HROW.out
          rw [hke, List.take_of_length_le (Nat.le_refl _)] at h1
          rw [hke, mixK_all M ks HML.out] at h2
          exact ⟨h1, h2⟩
        clear HROW HKK
        go_wp2_with fail
        go_ret
        exact ⟨by rw [HF.out.1]; rfl, HF.out.2, hon⟩

end Go.Proofs.Ytpnalacdgnppmaa
