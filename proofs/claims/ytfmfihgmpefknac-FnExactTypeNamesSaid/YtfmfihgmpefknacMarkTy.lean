/-
  The walks of the law's own helpers markTypeS and markType: they write marks into a type that lies in memory of its own, and turn nothing else.
-/
import Derived.Test.YtfmfihgmpefknacMarkN
namespace Go.Proofs.Ytfmfihgmpefknac
open Go.RowKit

theorem rowBulk_more (n : Nat) (ks : List Ty) (k : Nat) (h : k < ks.length) : rowBulk n (ks.take (k + 1)) = rowBulk n (ks.take k) + 1 + Ty.bulk n ks[k] := by
  unfold rowBulk
  rw [sum_more n ks k h, List.length_take, List.length_take]
  omega
theorem rowBulk_le (n : Nat) (ks : List Ty) (k : Nat) : rowBulk n (ks.take k) ≤ rowBulk n ks := by
  unfold rowBulk
  have := sum_le n ks k
  rw [List.length_take]
  omega

theorem frozen_same {w w' : World} {b : Nat} (o : Nat) (h : w'.heap[b]? = w.heap[b]?) : w'.frozen? ⟨b, o, none⟩ = w.frozen? ⟨b, o, none⟩ := by simp only [World.frozen?, h]
theorem frozen_row {w : World} {b : Nat} (h : ∃ cur e, w.heap[b]? = some (.cells cur e (0, 0))) (o : Nat) : w.frozen? ⟨b, o, none⟩ = false := by
  obtain ⟨cur, e, h⟩ := h
  simp [World.frozen?, h]
theorem set_other {w : World} {b o p : Nat} {u : Value} (h : o ≠ p) : (w.setCell ⟨b, o, none⟩ u).cell? ⟨b, p, none⟩ = w.cell? ⟨b, p, none⟩ := World.cell?_setCell_other w _ _ u (fun e => h (by cases e; rfl))

/-- two cells of a row are written, with a call between that turns nothing: what is as it was -/
theorem two_set {wr w2 : World} {b o : Nat} {u1 u2 : Value} (hb : b < wr.heap.size) (hb2 : Below (wr.setCell ⟨b, o, none⟩ u1).heap.size (wr.setCell ⟨b, o, none⟩ u1) w2) :
    (∀ p, p ≠ o → p ≠ o + 1 → (w2.setCell ⟨b, o + 1, none⟩ u2).cell? ⟨b, p, none⟩ = wr.cell? ⟨b, p, none⟩) ∧ (∀ p, (w2.setCell ⟨b, o + 1, none⟩ u2).frozen? ⟨b, p, none⟩ = wr.frozen? ⟨b, p, none⟩) ∧
    (∀ c, c ≠ b → c < wr.heap.size → (w2.setCell ⟨b, o + 1, none⟩ u2).heap[c]? = wr.heap[c]?) ∧ wr.heap.size ≤ (w2.setCell ⟨b, o + 1, none⟩ u2).heap.size ∧ (∀ lo hi, lo ≤ b → b < hi → Only lo hi wr (w2.setCell ⟨b, o + 1, none⟩ u2)) := by
  have hs : (wr.setCell ⟨b, o, none⟩ u1).heap.size = wr.heap.size := by simp
  refine ⟨fun p h1 h2 => ?_, fun p => ?_, fun c hc hl => ?_, ?_, fun lo hi h1 h2 => ?_⟩
  · rw [set_other (Ne.symm h2), hb2.cell (p := ⟨b, p, none⟩) (by rw [hs]; exact hb), set_other (Ne.symm h1)]
  · rw [World.frozen?_setCell, hb2.frozen (p := ⟨b, p, none⟩) (by rw [hs]; exact hb), World.frozen?_setCell]
  · rw [Below.heap_setCell _ _ _ _ (by simpa using hc), hb2.block c (by rw [hs]; exact hl), Below.heap_setCell _ _ _ _ (by simpa using hc)]
  · have := hb2.size
    rw [hs] at this
    simpa using this
  · exact ((Only.set _ _ _ ⟨h1, h2⟩).trans (Only.of_below hb2)).trans (Only.set _ _ _ ⟨h1, h2⟩)

/-- how much of a type its names and kids are -/
def t_bulk (t : Ty) (m : Nat) : Prop := t.names.length + rowBulk m t.kids ≤ Ty.bulk (m + 1) t

set_option maxHeartbeats 1600000 in
set_option maxRecDepth 100000 in
theorem lawsMarkRow (n : Nat) : ∀ (v : Value) (ks : List Ty) (lo hi k0 : Nat) (w : World), RowIn w (TyIn w n) lo hi v ks → hi ≤ w.heap.size → rowBulk n ks ≤ 1048576 → 1 ≤ k0 → k0 + 2 * rowBulk n ks ≤ 1000000000 →
    Calls Try.prog 26 #[v, .int .i64 k0] w fun e w' => ∃ k : Nat, e = .returned (.int .i64 k) ∧ k0 ≤ k ∧ k ≤ k0 + 2 * rowBulk n ks ∧ Only lo hi w w' := by
  induction n using Nat.strongRecOn with
  | ind n ih =>
    intro v ks lo hi k0 w hrow hhi hbk hk1 hk2
    obtain ⟨b, cap, rfl, g1, g2, g0, L, g3, g4, g5⟩ := hrow
    have hkl : ks.length ≤ 1048576 := by unfold rowBulk at hbk; omega
    have IH : Hid (type_of% ih) := ih
    have H3 : Hid (type_of% g3) := g3
    have H4 : Hid (type_of% g4) := g4
    have H5 : Hid (∀ q (h : q < ks.length), 0 ≤ q → ∃ cs, TyIn w n (L q) (L (q + 1)) cs ks[q] ∧ ∀ c u, cs[c]? = some u → w.cell? ⟨b, q * 4 + c, none⟩ = some u) := fun q h _ => g5 q h
    clear ih g3 g4 g5
    go_enter Try.func26, Try.ntmps26
    go_wp2_with fail
    go_loopw [1, 5] (fun kv i wr => ∃ j kk : Nat, j ≤ ks.length ∧ i = .int .i64 j ∧ kv = .int .i64 kk ∧ k0 ≤ kk ∧ kk ≤ k0 + 2 * rowBulk n (ks.take j) ∧ Only lo hi w wr ∧ (∀ o, wr.frozen? ⟨b, o, none⟩ = false) ∧ ∀ q (h : q < ks.length), j ≤ q → ∃ cs, TyIn wr n (L q) (L (q + 1)) cs ks[q] ∧ ∀ c u, cs[c]? = some u → wr.cell? ⟨b, q * 4 + c, none⟩ = some u) (fun _ i _ => ks.length - (intOf i).toNat)
    case atStart => exact ⟨0, k0, Nat.zero_le _, rfl, rfl, Nat.le_refl _, by omega, Only.refl _ _ _, frozen_row g0, H5.out⟩
    case round =>
      obtain ⟨j, kk, hj, rfl, rfl, hkk1, hkk2, hon, hcl, hrest⟩ := hrel
      have HR : Hid (type_of% hrest) := hrest
      clear hrest H5 g0
      by_cases hlt : j < ks.length
      · obtain ⟨cs, hty, hce⟩ := HR.out j hlt (Nat.le_refl _)
        have hL1 := H3.out j (by omega)
        have hL2 := H3.out (j + 1) (by omega)
        have hmore := rowBulk_more n ks j hlt
        have hle := rowBulk_le n ks (j + 1)
        cases n with
        | zero => exact hty.elim
        | succ m =>
          obtain ⟨vn, vk, mid, rfl, _, _, ⟨hnm, _, _⟩, _, hmid, hkids⟩ := hty
          have a0 : wr.cell? ⟨b, j * 4, none⟩ = some (.int .i64 ks[j].kind) := hce 0 _ rfl
          have a1 : wr.cell? ⟨b, j * 4 + 1, none⟩ = some (.string ks[j].name) := hce 1 _ rfl
          have a2 : wr.cell? ⟨b, j * 4 + 2, none⟩ = some vn := hce 2 _ rfl
          have a3 : wr.cell? ⟨b, j * 4 + 3, none⟩ = some vk := hce 3 _ rfl
          have hbk2 : t_bulk ks[j] m := by unfold t_bulk; rw [Ty.bulk]; unfold rowBulk; omega
          unfold t_bulk at hbk2
          have hbw : b < wr.heap.size := Nat.lt_of_lt_of_le (by omega) hon.size
          have hmh : mid < L (j + 1) := by obtain ⟨x, _, _, h7, h8, _⟩ := hkids; omega
          have hwz : w.heap.size ≤ wr.heap.size := hon.size
          have hf0 := hcl (j * 4)
          have HMT : Hid (∀ wx : World, Calls Try.prog 27 #[.int .i64 ((kk : Int) + 1)] wx fun e w' => e = .returned (.string (markB (kk + 1))) ∧ Below wx.heap.size wx w') := fun wx => by
            have := lawsMark (kk + 1) wx (by omega) (by omega)
            rw [show (((kk + 1 : Nat)) : Int) = (kk : Int) + 1 from by omega] at this
            exact this
          have HNM : Hid (NamesIn wr (L j) mid vn ks[j].names) := hnm
          have HKD : Hid (RowIn wr (TyIn wr m) mid (L (j + 1)) vk ks[j].kids) := hkids
          have HREST : Hid (∀ q (h : q < ks.length), j + 1 ≤ q → (L (j + 1) ≤ L q ∧ L (q + 1) ≤ hi) ∧ ∃ cs, TyIn wr (m + 1) (L q) (L (q + 1)) cs ks[q] ∧ ∀ c u, cs[c]? = some u → wr.cell? ⟨b, q * 4 + c, none⟩ = some u) := fun q h hq => ⟨⟨H4.out _ _ hq (by omega), (H3.out (q + 1) (by omega)).2⟩, HR.out q h (by omega)⟩
          generalize markB (kk + 1) = V at *
          clear hnm hkids hce HR
          obtain ⟨an, cn, hvn⟩ := slice_ownM HNM.out.1
          obtain ⟨bk, ck, hvk⟩ : ∃ bk ck, vk = .slice (some ⟨bk, 0, none⟩) ks[j].kids.length ck := by obtain ⟨x, c, e, _⟩ := HKD.out; exact ⟨x, c, e⟩
          subst hvn hvk
          go_wp2_with fail
          refine (HMT.out _).mono ?_
          rintro e w2 ⟨rfl, hb2⟩
          obtain ⟨t1, t2, t3, t4, t5⟩ := two_set (o := j * 4) (u2 := .string V) hbw hb2
          have b1 : w2.cell? ⟨b, j * 4 + 1, none⟩ = some (.string ks[j].name) := by
            rw [hb2.cell (p := ⟨b, j * 4 + 1, none⟩) (by simpa using hbw), set_other (by omega)]
            exact a1
          have f1 : w2.frozen? ⟨b, j * 4 + 1, none⟩ = false := by
            rw [hb2.frozen (p := ⟨b, j * 4 + 1, none⟩) (by simpa using hbw), World.frozen?_setCell]
            exact hcl _
          have c2 := (t1 (j * 4 + 2) (by omega) (by omega)).trans a2
          have c3 := (t1 (j * 4 + 3) (by omega) (by omega)).trans a3
          have HN3 := HNM.out.same (w' := w2.setCell ⟨b, j * 4 + 1, none⟩ (.string V)) (fun x h1 h2 => t3 x (by omega) (by omega))
          have HC0 := lawsMarkN _ ks[j].names.length (L j) (L j) mid (kk + 2) _ _ HN3.1 (fun g hg => ⟨(HN3.1.lt g hg).1, HN3.2 g hg⟩) (by omega) (by omega) (by omega)
          rw [show (((kk + 2 : Nat)) : Int) = (kk : Int) + 2 from by omega] at HC0
          have HC : Hid (type_of% HC0) := HC0
          clear HC0 HN3 HMT
          go_wp2_with fail
          refine HC.out.mono ?_
          rintro e w4 ⟨rfl, _, on4⟩
          have d3 : w4.cell? ⟨b, j * 4 + 3, none⟩ = some (.slice (some ⟨bk, 0, none⟩) ks[j].kids.length ck) := cell_same c3 (on4.block b (by omega) (.inl (by omega)))
          have HK4 : Hid (RowIn w4 (TyIn w4 m) mid (L (j + 1)) (.slice (some ⟨bk, 0, none⟩) ks[j].kids.length ck) ks[j].kids) := HKD.out.same (fun x h1 h2 => (on4.block x (by omega) (.inr (by omega))).trans (t3 x (by omega) (by omega))) fun lo' hi' cs t h1 h2 h => h.same fun x h3 h4 => (on4.block x (by omega) (.inr (by omega))).trans (t3 x (by omega) (by omega))
          have hz4 : wr.heap.size ≤ w4.heap.size := Nat.le_trans t4 on4.size
          have HC5 := IH.out m (by omega) _ _ mid (L (j + 1)) (kk + 2 + ks[j].names.length) w4 HK4.out (by omega) (by omega) (by omega) (by omega)
          rw [show (((kk + 2 + ks[j].names.length : Nat)) : Int) = (kk : Int) + 2 + ks[j].names.length from by omega] at HC5
          have HC6 : Hid (type_of% HC5) := HC5
          clear HC5 HC HK4
          go_wp2_with fail
          refine HC6.out.mono ?_
          rintro e w5 ⟨k5, rfl, hk51, hk52, on5⟩
          have R1 : Only lo hi w w5 := ((hon.trans (t5 lo hi g1 g2)).trans (on4.mono (by omega) (by omega))).trans (on5.mono (by omega) (by omega))
          have hb5 : w5.heap[b]? = (w2.setCell ⟨b, j * 4 + 1, none⟩ (.string V)).heap[b]? := (on5.block b (by omega) (.inl (by omega))).trans (on4.block b (by omega) (.inl (by omega)))
          have R2 : ∀ o, w5.frozen? ⟨b, o, none⟩ = false := fun o => (frozen_same o hb5).trans ((t2 o).trans (hcl o))
          have R3 : ∀ q (h : q < ks.length), j + 1 ≤ q → ∃ cs, TyIn w5 (m + 1) (L q) (L (q + 1)) cs ks[q] ∧ ∀ c u, cs[c]? = some u → w5.cell? ⟨b, q * 4 + c, none⟩ = some u := fun q h hq => by
            obtain ⟨⟨r1, r2⟩, cs, r3, r4⟩ := HREST.out q h hq
            refine ⟨cs, r3.same fun x h1 h2 => ?_, fun c u hu => ?_⟩
            · exact ((on5.block x (by omega) (.inr (by omega))).trans (on4.block x (by omega) (.inr (by omega)))).trans (t3 x (by omega) (by omega))
            · exact cell_same ((t1 _ (by omega) (by omega)).trans (r4 c u hu)) hb5
          have HR3 : Hid (type_of% R3) := R3
          have hkb : k5 ≤ k0 + 2 * rowBulk (m + 1) (ks.take (j + 1)) := by omega
          clear on4 on5 t1 t2 t3 t5 HREST HKD HNM R3 HC6 c2 c3 d3
          go_wp2_with fail
          go_roundw
          case rel => exact ⟨j + 1, k5, by omega, by go_num, rfl, by omega, hkb, R1, R2, HR3.out⟩
          case measure => simp [intOf]; omega
      · have hke : j = ks.length := by omega
        rw [hke, List.take_of_length_le (Nat.le_refl _)] at hkk2
        clear HR
        go_wp2_with fail
        go_ret
        exact ⟨kk, rfl, hkk1, hkk2, hon⟩

set_option maxHeartbeats 1600000 in
set_option maxRecDepth 100000 in
theorem lawsMarkTy (n : Nat) (cs : List Value) (t : Ty) (lo hi k0 : Nat) (w : World) (h : TyIn w n lo hi cs t) (hhi : hi ≤ w.heap.size) (hbk : Ty.bulk n t ≤ 1048576) (hk1 : 1 ≤ k0) (hk2 : k0 ≤ 100000000) :
    Calls Try.prog 13 #[.agg cs.toArray, .int .i64 k0] w fun e w' => ∃ k : Nat, e = .returned (.int .i64 k) ∧ k0 ≤ k ∧ k ≤ 200000000 ∧ Only lo hi w w' := by
  cases n with
  | zero => exact h.elim
  | succ m =>
    have h0 := h.below ((Below.refl w.heap.size w).alloc (Nat.le_refl _) (.cells cs.toArray 30))
    obtain ⟨vn, vk, mid, rfl, _, _, ⟨hnm, _, _⟩, _, hmid, hkids⟩ := h0
    have hb : t_bulk t m := by unfold t_bulk; rw [Ty.bulk]; unfold rowBulk; omega
    unfold t_bulk at hb
    have hmh : mid < hi := by obtain ⟨x, _, _, h7, h8, _⟩ := hkids; omega
    obtain ⟨an, cn, hvn⟩ := slice_ownM hnm.1
    obtain ⟨bk, ck, hvk⟩ : ∃ bk ck, vk = .slice (some ⟨bk, 0, none⟩) t.kids.length ck := by obtain ⟨x, c, e, _⟩ := hkids; exact ⟨x, c, e⟩
    subst hvn hvk
    have HC0 := lawsMarkN _ t.names.length lo lo mid k0 _ _ hnm.1 (fun g hg => ⟨(hnm.1.lt g hg).1, hnm.2 g hg⟩) (by omega) (by omega) (by omega)
    have HC : Hid (type_of% HC0) := HC0
    have HKD : Hid (type_of% hkids) := hkids
    clear HC0 hkids hnm h
    go_enter Try.func13, Try.ntmps13
    go_wp2_with fail
    refine HC.out.mono ?_
    rintro e w4 ⟨rfl, _, on4⟩
    have hz4 : w.heap.size + 1 ≤ w4.heap.size := by have := on4.size; simpa using this
    have d3 : w4.cell? ⟨w.heap.size, 3, none⟩ = some (.slice (some ⟨bk, 0, none⟩) t.kids.length ck) := cell_same (by rw [cellNew _ rfl]; rfl) (on4.block w.heap.size (by simp) (.inr (by omega)))
    have HK4 := HKD.out.same (w' := w4) (R' := TyIn w4 m) (fun x h1 h2 => on4.block x (by simp; omega) (.inr (by omega))) fun lo' hi' cs t h1 h2 h => h.same fun x h3 h4 => on4.block x (by simp; omega) (.inr (by omega))
    have HC5 := lawsMarkRow m _ _ mid hi (k0 + t.names.length) w4 HK4 (by omega) (by omega) (by omega) (by omega)
    rw [show (((k0 + t.names.length : Nat)) : Int) = (k0 : Int) + t.names.length from by omega] at HC5
    have HC6 : Hid (type_of% HC5) := HC5
    have O1 : Only lo hi w w4 := (Only.of_below ((Below.refl w.heap.size w).alloc (Nat.le_refl _) _)).trans (on4.mono (Nat.le_refl _) (by omega))
    clear HC5 HC HK4 HKD on4
    go_wp2_with fail
    refine HC6.out.mono ?_
    rintro e w5 ⟨k5, rfl, hk51, hk52, on5⟩
    go_wp2_with fail
    go_ret
    exact ⟨k5, rfl, by omega, by omega, O1.trans (on5.mono hmid (Nat.le_refl _))⟩

end Go.Proofs.Ytfmfihgmpefknac
