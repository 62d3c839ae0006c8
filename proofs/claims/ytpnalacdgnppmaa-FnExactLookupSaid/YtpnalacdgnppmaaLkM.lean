/-
  The walk of the law's own helper markNamedS.
-/
import Derived.Test.YtpnalacdgnppmaaNmTo
import Derived.Test.YtpnalacdgnppmaaMarkTy
namespace Go.Proofs.Ytpnalacdgnppmaa
open Go.RowKit

/-- some cells of a block are written, and new blocks are laid: what is as it was -/
structure Tw (b : Nat) (O : Nat → Prop) (w w' : World) : Prop where
  cell : ∀ p, ¬ O p → w'.cell? ⟨b, p, none⟩ = w.cell? ⟨b, p, none⟩
  frozen : ∀ p, w'.frozen? ⟨b, p, none⟩ = w.frozen? ⟨b, p, none⟩
  block : ∀ c, c ≠ b → c < w.heap.size → w'.heap[c]? = w.heap[c]?
  size : w.heap.size ≤ w'.heap.size
  only : ∀ lo hi, lo ≤ b → b < hi → Only lo hi w w'
theorem Tw.trans {b : Nat} {O : Nat → Prop} {a c d : World} (h : Tw b O a c) (k : Tw b O c d) : Tw b O a d := ⟨fun p hp => (k.cell p hp).trans (h.cell p hp), fun p => (k.frozen p).trans (h.frozen p), fun x hx hl => (k.block x hx (Nat.lt_of_lt_of_le hl h.size)).trans (h.block x hx hl), Nat.le_trans h.size k.size, fun lo hi h1 h2 => (h.only lo hi h1 h2).trans (k.only lo hi h1 h2)⟩
theorem Tw.below {b : Nat} {O : Nat → Prop} {w w' : World} (hb : b < w.heap.size) (h : Below w.heap.size w w') : Tw b O w w' := ⟨fun p _ => h.cell (p := ⟨b, p, none⟩) hb, fun p => h.frozen (p := ⟨b, p, none⟩) hb, fun c _ hl => h.block c hl, h.size, fun _ _ _ _ => Only.of_below h⟩
theorem Tw.set {b o : Nat} {O : Nat → Prop} (w : World) (u : Value) (ho : O o) : Tw b O w (w.setCell ⟨b, o, none⟩ u) := ⟨fun p hp => set_other (fun e => hp (e ▸ ho)), fun p => World.frozen?_setCell .., fun c hc _ => Below.heap_setCell _ _ _ _ (by simpa using hc), by simp, fun lo hi h1 h2 => Only.set _ _ _ ⟨h1, h2⟩⟩

theorem envBulk_more (n : Nat) (es : List (ByteArray × Ty)) (k : Nat) (h : k < es.length) : envBulk n (es.take (k + 1)) = envBulk n (es.take k) + 1 + (es[k].1.size + Ty.bulk n es[k].2) := by
  have := envSum_more n es k h
  unfold nmBulk at this
  unfold envBulk nmBulk
  rw [this, List.length_take, List.length_take]
  omega
theorem envBulk_le (n : Nat) (es : List (ByteArray × Ty)) (k : Nat) : envBulk n (es.take k) ≤ envBulk n es := by
  have := envSum_le n es k
  unfold envBulk
  rw [List.length_take]
  omega

set_option maxHeartbeats 1600000 in
set_option maxRecDepth 100000 in
theorem lawsMarkEnv (n : Nat) (v : Value) (es : List (ByteArray × Ty)) (lo hi k0 : Nat) (w : World) (hrow : EnvIn w n lo hi v es) (hhi : hi ≤ w.heap.size) (hbk : envBulk n es ≤ 1048576) (hk1 : 1 ≤ k0) (hk2 : k0 + 3 * envBulk n es ≤ 1000000000) :
    Calls Try.prog 10 #[v, .int .i64 k0] w fun e w' => ∃ k : Nat, e = .returned (.int .i64 k) ∧ k0 ≤ k ∧ k ≤ k0 + 3 * envBulk n es ∧ Only lo hi w w' := by
  obtain ⟨b, cap, rfl, g1, g2, g0, L, g3, g4, g5⟩ := hrow
  have hkl : es.length ≤ 1048576 := by unfold envBulk at hbk; omega
  have H3 : Hid (type_of% g3) := g3
  have H4 : Hid (type_of% g4) := g4
  have H5 : Hid (∀ q (h : q < es.length), 0 ≤ q → ∃ cs, TyIn w n (L q) (L (q + 1)) cs es[q].2 ∧ w.cell? ⟨b, q * 5, none⟩ = some (.string es[q].1) ∧ ∀ c u, cs[c]? = some u → w.cell? ⟨b, q * 5 + 1 + c, none⟩ = some u) := fun q h _ => (g5 q h).2
  clear g3 g4 g5
  go_enter Try.func10, Try.ntmps10
  go_wp2_with fail
  go_loopw [1, 5] (fun kv i wr => ∃ j kk : Nat, j ≤ es.length ∧ i = .int .i64 j ∧ kv = .int .i64 kk ∧ k0 ≤ kk ∧ kk ≤ k0 + 3 * envBulk n (es.take j) ∧ Only lo hi w wr ∧ (∀ o, wr.frozen? ⟨b, o, none⟩ = false) ∧ ∀ q (h : q < es.length), j ≤ q → ∃ cs, TyIn wr n (L q) (L (q + 1)) cs es[q].2 ∧ wr.cell? ⟨b, q * 5, none⟩ = some (.string es[q].1) ∧ ∀ c u, cs[c]? = some u → wr.cell? ⟨b, q * 5 + 1 + c, none⟩ = some u) (fun _ i _ => es.length - (intOf i).toNat)
  case atStart => exact ⟨0, k0, Nat.zero_le _, rfl, rfl, Nat.le_refl _, by omega, Only.refl _ _ _, frozen_row g0, H5.out⟩
  case round =>
    obtain ⟨j, kk, hj, rfl, rfl, hkk1, hkk2, hon, hcl, hrest⟩ := hrel
    have HR : Hid (type_of% hrest) := hrest
    clear hrest H5 g0
    by_cases hlt : j < es.length
    · obtain ⟨cs, hty, a0, hce⟩ := HR.out j hlt (Nat.le_refl _)
      have hL1 := H3.out j (by omega)
      have hL2 := H3.out (j + 1) (by omega)
      have hmore := envBulk_more n es j hlt
      have hle := envBulk_le n es (j + 1)
      cases n with
      | zero => exact hty.elim
      | succ m =>
        obtain ⟨vn, vk, mid, rfl, _, _, ⟨hnm, _, _⟩, _, hmid, hkids⟩ := hty
        have a1 : wr.cell? ⟨b, j * 5 + 1, none⟩ = some (.int .i64 es[j].2.kind) := hce 0 _ rfl
        have a2 : wr.cell? ⟨b, j * 5 + 2, none⟩ = some (.string es[j].2.name) := hce 1 _ rfl
        have a3 : wr.cell? ⟨b, j * 5 + 3, none⟩ = some vn := hce 2 _ rfl
        have a4 : wr.cell? ⟨b, j * 5 + 4, none⟩ = some vk := hce 3 _ rfl
        have hbk2 : t_bulk es[j].2 m := by unfold t_bulk; rw [Ty.bulk]; unfold rowBulk; omega
        unfold t_bulk at hbk2
        have hbw : b < wr.heap.size := Nat.lt_of_lt_of_le (by omega) hon.size
        have hmh : mid < L (j + 1) := by obtain ⟨x, _, _, h7, h8, _⟩ := hkids; omega
        have hwz : w.heap.size ≤ wr.heap.size := hon.size
        have HM1 : Hid (∀ wx : World, Calls Try.prog 22 #[.int .i64 (kk : Int)] wx fun e w' => e = .returned (.string (markB kk)) ∧ Below wx.heap.size wx w') := fun wx => lawsMark kk wx (by omega) (by omega)
        have HM2 : Hid (∀ wx : World, Calls Try.prog 22 #[.int .i64 ((kk : Int) + 1 + 1)] wx fun e w' => e = .returned (.string (markB (kk + 2))) ∧ Below wx.heap.size wx w') := fun wx => by
          have := lawsMark (kk + 2) wx (by omega) (by omega)
          rw [show (((kk + 2 : Nat)) : Int) = (kk : Int) + 1 + 1 from by omega] at this
          exact this
        have HNM : Hid (NamesIn wr (L j) mid vn es[j].2.names) := hnm
        have HKD : Hid (RowIn wr (TyIn wr m) mid (L (j + 1)) vk es[j].2.kids) := hkids
        have HREST : Hid (∀ q (h : q < es.length), j + 1 ≤ q → (L (j + 1) ≤ L q ∧ L (q + 1) ≤ hi) ∧ ∃ cs, TyIn wr (m + 1) (L q) (L (q + 1)) cs es[q].2 ∧ wr.cell? ⟨b, q * 5, none⟩ = some (.string es[q].1) ∧ ∀ c u, cs[c]? = some u → wr.cell? ⟨b, q * 5 + 1 + c, none⟩ = some u) := fun q h hq => ⟨⟨H4.out _ _ hq (by omega), (H3.out (q + 1) (by omega)).2⟩, HR.out q h (by omega)⟩
        generalize markB kk = V1 at *
        generalize markB (kk + 2) = V2 at *
        clear hnm hkids hce HR
        obtain ⟨an, cn, hvn⟩ := slice_ownM HNM.out.1
        obtain ⟨bk, ck, hvk⟩ : ∃ bk ck, vk = .slice (some ⟨bk, 0, none⟩) es[j].2.kids.length ck := by obtain ⟨x, c, e, _⟩ := HKD.out; exact ⟨x, c, e⟩
        subst hvn hvk
        go_wp2_with fail
        refine (HM1.out _).mono ?_
        rintro e w1 ⟨rfl, hb1⟩
        have T1 : Tw b (fun o => o = j * 5 ∨ o = j * 5 + 1 ∨ o = j * 5 + 2) wr w1 := Tw.below hbw hb1
        have A0 := (T1.cell (j * 5 + 4) (by omega)).trans a4
        have p0 := (hb1.cell (p := ⟨b, j * 5, none⟩) hbw).trans a0
        have p1 := (hb1.cell (p := ⟨b, j * 5 + 1, none⟩) hbw).trans a1
        have p2 := (hb1.cell (p := ⟨b, j * 5 + 2, none⟩) hbw).trans a2
        have f0 := (T1.frozen (j * 5)).trans (hcl _)
        have f1 := (T1.frozen (j * 5 + 1)).trans (hcl _)
        have f2 := (T1.frozen (j * 5 + 2)).trans (hcl _)
        have T2 := T1.trans ((Tw.set w1 (.string V1) (.inl rfl)).trans (Tw.set _ (.int .i64 ((kk : Int) + 1)) (.inr (.inl rfl))))
        clear A0 a0 a1 a2
        go_wp2_with fail
        have hz2 : b < ((w1.setCell ⟨b, j * 5, none⟩ (.string V1)).setCell ⟨b, j * 5 + 1, none⟩ (.int .i64 ((kk : Int) + 1))).heap.size := Nat.lt_of_lt_of_le hbw T2.size
        have P2 : ((w1.setCell ⟨b, j * 5, none⟩ (.string V1)).setCell ⟨b, j * 5 + 1, none⟩ (.int .i64 ((kk : Int) + 1))).cell? ⟨b, j * 5 + 2, none⟩ = some (.string es[j].2.name) := by
          rw [set_other (by omega), set_other (by omega)]; exact p2
        generalize ((w1.setCell ⟨b, j * 5, none⟩ (.string V1)).setCell ⟨b, j * 5 + 1, none⟩ (.int .i64 ((kk : Int) + 1))) = W2 at *
        refine (HM2.out _).mono ?_
        rintro e w3 ⟨rfl, hb3⟩
        have T3 := T2.trans (Tw.below hz2 hb3)
        have Q2 := (hb3.cell (p := ⟨b, j * 5 + 2, none⟩) hz2).trans P2
        have F2 := (T3.frozen (j * 5 + 2)).trans (hcl _)
        have T4 := T3.trans (Tw.set w3 (.string V2) (.inr (.inr rfl)))
        have c3 := (T4.cell (j * 5 + 3) (by omega)).trans a3
        have c4 := (T4.cell (j * 5 + 4) (by omega)).trans a4
        have HN3 := HNM.out.same (w' := w3.setCell ⟨b, j * 5 + 2, none⟩ (.string V2)) (fun x h1 h2 => T4.block x (by omega) (by omega))
        have HC0 := lawsMarkN _ es[j].2.names.length (L j) (L j) mid (kk + 3) _ _ HN3.1 (fun g hg => ⟨(HN3.1.lt g hg).1, HN3.2 g hg⟩) (by omega) (by omega) (by omega)
        rw [show (((kk + 3 : Nat)) : Int) = (kk : Int) + 1 + 1 + 1 from by omega] at HC0
        have HC : Hid (type_of% HC0) := HC0
        have HT4 : Hid (type_of% T4) := T4
        clear HC0 HN3 HM1 HM2 T1 T2 T3 T4 p0 p1 p2 P2 hb1 hb3
        go_wp2_with fail
        have hz4' := HT4.out.size
        refine HC.out.mono ?_
        rintro e w4 ⟨rfl, _, on4⟩
        have hb4 : w4.heap[b]? = (w3.setCell ⟨b, j * 5 + 2, none⟩ (.string V2)).heap[b]? := on4.block b (by omega) (.inl (by omega))
        have d4 : w4.cell? ⟨b, j * 5 + 4, none⟩ = some (.slice (some ⟨bk, 0, none⟩) es[j].2.kids.length ck) := cell_same c4 hb4
        have hsame : ∀ x, mid ≤ x → x < wr.heap.size → x ≠ b → w4.heap[x]? = wr.heap[x]? := fun x h1 h2 h3 => (on4.block x (by omega) (.inr h1)).trans (HT4.out.block x h3 h2)
        have HK4 : Hid (RowIn w4 (TyIn w4 m) mid (L (j + 1)) (.slice (some ⟨bk, 0, none⟩) es[j].2.kids.length ck) es[j].2.kids) := HKD.out.same (fun x h1 h2 => hsame x (by omega) (by omega) (by omega)) fun lo' hi' cs t h1 h2 h => h.same fun x h3 h4 => hsame x (by omega) (by omega) (by omega)
        have hz4 : wr.heap.size ≤ w4.heap.size := Nat.le_trans hz4' on4.size
        have HC5 := lawsMarkRow m _ _ mid (L (j + 1)) (kk + 3 + es[j].2.names.length) w4 HK4.out (by omega) (by omega) (by omega) (by omega)
        rw [show (((kk + 3 + es[j].2.names.length : Nat)) : Int) = (kk : Int) + 1 + 1 + 1 + es[j].2.names.length from by omega] at HC5
        have HC6 : Hid (type_of% HC5) := HC5
        clear HC5 HC HK4
        go_wp2_with fail
        refine HC6.out.mono ?_
        rintro e w5 ⟨k5, rfl, hk51, hk52, on5⟩
        have R1 : Only lo hi w w5 := ((hon.trans (HT4.out.only lo hi g1 g2)).trans (on4.mono (by omega) (by omega))).trans (on5.mono (by omega) (by omega))
        have hb5 : w5.heap[b]? = (w3.setCell ⟨b, j * 5 + 2, none⟩ (.string V2)).heap[b]? := (on5.block b (by omega) (.inl (by omega))).trans hb4
        have R2 : ∀ o, w5.frozen? ⟨b, o, none⟩ = false := fun o => (frozen_same o hb5).trans ((HT4.out.frozen o).trans (hcl o))
        have R3 : ∀ q (h : q < es.length), j + 1 ≤ q → ∃ cs, TyIn w5 (m + 1) (L q) (L (q + 1)) cs es[q].2 ∧ w5.cell? ⟨b, q * 5, none⟩ = some (.string es[q].1) ∧ ∀ c u, cs[c]? = some u → w5.cell? ⟨b, q * 5 + 1 + c, none⟩ = some u := fun q h hq => by
          obtain ⟨⟨r1, r2⟩, cs, r3, r0, r4⟩ := HREST.out q h hq
          refine ⟨cs, r3.same fun x h1 h2 => ?_, ?_, fun c u hu => ?_⟩
          · exact (on5.block x (by omega) (.inr (by omega))).trans (hsame x (by omega) (by omega) (by omega))
          · exact cell_same ((HT4.out.cell _ (by omega)).trans r0) hb5
          · exact cell_same ((HT4.out.cell _ (by omega)).trans (r4 c u hu)) hb5
        have HR3 : Hid (type_of% R3) := R3
        have hkb : k5 ≤ k0 + 3 * envBulk (m + 1) (es.take (j + 1)) := by omega
        clear on4 on5 HREST HKD HNM R3 HC6 c3 c4 d4 HT4 hsame hb4 hb5
        go_wp2_with fail
        go_roundw
        case rel => exact ⟨j + 1, k5, by omega, by go_num, rfl, by omega, hkb, R1, R2, HR3.out⟩
        case measure => simp [intOf]; omega
    · have hke : j = es.length := by omega
      rw [hke, List.take_of_length_le (Nat.le_refl _)] at hkk2
      clear HR
      go_wp2_with fail
      go_ret
      exact ⟨kk, rfl, hkk1, hkk2, hon⟩

end Go.Proofs.Ytpnalacdgnppmaa
