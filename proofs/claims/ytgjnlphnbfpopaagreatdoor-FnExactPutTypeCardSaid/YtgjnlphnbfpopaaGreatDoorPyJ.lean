/-
  The walk of impl.canPut.
  The walk of impl.PutType.
-/
import Derived.Test.YtgjnlphnbfpopaaGreatDoorMkZ
import Derived.Test.YtgjnlphnbfpopaaGreatDoorPyP
namespace Go.Proofs.YtgjnlphnbfpopaaGreatDoor
open Go.RowKit Go.Shelf

theorem sum_take (n : Nat) (ts : List Ty) (k : Nat) (h : k < ts.length) : ((ts.take (k + 1)).map (Ty.bulk n)).sum = ((ts.take k).map (Ty.bulk n)).sum + Ty.bulk n ts[k] := by
  rw [List.take_succ_eq_append_getElem h, List.map_append, List.sum_append]
  simp
theorem take_sum (n : Nat) (ts : List Ty) (k : Nat) : ((ts.take k).map (Ty.bulk n)).sum ≤ (ts.map (Ty.bulk n)).sum := by
  induction ts generalizing k with
  | nil => simp
  | cons a r ih =>
    cases k with
    | zero => simp
    | succ k =>
      have := ih k
      simp only [List.take_succ_cons, List.map_cons, List.sum_cons]
      omega

set_option maxHeartbeats 3200000 in
set_option maxRecDepth 100000 in
open Classical in
theorem implCanPut (n : Nat) (av : Option Addr) (capv : Nat) (ts : List Ty) (A : Nat → Prop) (w : World) (hA : ∀ b, A b → b < w.heap.size) (hrow : RowR A w (TyR A w n) (.slice av ts.length capv) ts) (hlen : ts.length ≤ 1048577) (hsum : (ts.map (Ty.bulk n)).sum ≤ 2097152) (hone : ∀ k (h : k < ts.length), Ty.bulk n ts[k] ≤ 1048576) (hc : ClsIs w) (hp : Lib.TabIs Tryz.prog w "internal/strconv.uint64pow10" .u64 Lib.pow10Tab) :
    Calls Tryz.prog 15 #[.slice av ts.length capv] w fun e w' => e = .returned (.bool (decide (∀ q ∈ ts, Right n q 12))) ∧ Below w.heap.size w w' := by
  obtain ⟨RR, hRR⟩ : ∃ RR, RR = decide (∀ q ∈ ts, Right n q 12) := ⟨_, rfl⟩
  rw [← hRR]
  have HNO : Hid (∀ k (h : k < ts.length), ¬ Right n ts[k] 12 → RR = false) := fun k h hr => by rw [hRR]; exact decide_eq_false fun q => hr (q _ (List.getElem_mem h))
  have HYES : Hid ((∀ k (h : k < ts.length), Right n ts[k] 12) → RR = true) := fun h => by
    rw [hRR]
    refine decide_eq_true fun q hq => ?_
    obtain ⟨j, hj, rfl⟩ := List.getElem_of_mem hq
    exact h j hj
  have hn := newMk_below w
  have hsz := newMk_size w
  have hE : ExtOk (newC w) (newMk w) A := fun b hb => ⟨by have := hA b hb; omega, .inl (hA b hb)⟩
  have hTab : MkTab (newC w) (newMk w) := ⟨hc.below hn hc.lt, hc.lt, fun w' hw' => Lib.tabBelow_of_tabIs hp w' (hn.trans (hw'.mono (Nat.le_refl _)))⟩
  have hst0 : Step (newC w) newM newM (newMk w) (newMk w) A := Step.refl (newMk_at w) A
  have HNM : Hid (type_of% (implNewMaker w)) := implNewMaker w
  have HEL : Hid (∀ k (hk : k < ts.length), ∃ bk ok an2 ln2 cn2 ak2 lk2 ck2, av = some ⟨bk, ok, none⟩ ∧ A bk ∧ TyR A w n [.int .i64 ts[k].kind, .string ts[k].name, .slice an2 ln2 cn2, .slice ak2 lk2 ck2] ts[k] ∧ w.cell? ⟨bk, ok + k * 4, none⟩ = some (.int .i64 ts[k].kind) ∧ w.cell? ⟨bk, ok + k * 4 + 1, none⟩ = some (.string ts[k].name) ∧ w.cell? ⟨bk, ok + k * 4 + 2, none⟩ = some (.slice an2 ln2 cn2) ∧ w.cell? ⟨bk, ok + k * 4 + 3, none⟩ = some (.slice ak2 lk2 ck2)) := fun k hk => by
    obtain ⟨a9, c9, e9, hel⟩ := rowROpen hrow
    simp only [Value.slice.injEq, true_and] at e9
    obtain ⟨rfl, rfl⟩ := e9
    obtain ⟨b, off, x0, x1, x2, x3, e, hAb, hty, c0, c1, c2, c3⟩ := hel k hk
    obtain ⟨an2, ln2, cn2, ak2, lk2, ck2, ee⟩ := hty.at.shape
    simp only [List.cons.injEq, and_true] at ee
    obtain ⟨rfl, rfl, rfl, rfl⟩ := ee
    exact ⟨b, off, an2, ln2, cn2, ak2, lk2, ck2, e, hAb, hty, c0, c1, c2, c3⟩
  have HOLD : Hid (∀ wx : World, MkF (newC w) (newMk w) wx → SameOn A w wx ∧ Below w.heap.size w wx) := fun wx hx => by
    have hb : Below w.heap.size w wx := hn.trans ((hx.below (by show w.heap.size ≤ _; omega)).mono (Nat.le_refl _))
    exact ⟨fun b hb' => hb.block b (hA b hb'), hb⟩
  have HSM : Hid (type_of% hsum) := hsum
  have HONE : Hid (type_of% hone) := hone
  clear hrow hA hc hp hRR hsum hone hn hsz
  go_enter Tryz.func15, Tryz.ntmps15
  go_wp2_with fail
  refine HNM.out.mono ?_
  rintro e w0 ⟨rfl, hw0⟩
  obtain ⟨C, hC⟩ : ∃ C, C = newC w := ⟨_, rfl⟩
  have hmb : C.mb = w.heap.size + 3 := by rw [hC]; rfl
  rw [← hmb]
  rw [← hC] at hE hTab hst0 HOLD
  rw [← hw0] at hE hTab hst0 HOLD
  clear HNM hC hmb hw0
  go_wp2_with fail
  go_loopw [4, 12] (fun s i wr => ∃ (k S : Nat) (M1 : Mk), k ≤ ts.length ∧ i = .int .i64 k ∧ s = .int .i64 S ∧ S ≤ 40 * ((ts.take k).map (Ty.bulk n)).sum + 20 * k ∧ (∀ j (h : j < ts.length), j < k → Right n ts[j] 12) ∧ Step C newM M1 w0 wr A ∧ M1.F.length ≤ k * 1048577) (fun _ i _ => ts.length - (intOf i).toNat)
  case atStart => exact ⟨0, 0, newM, Nat.zero_le _, rfl, rfl, by simp, fun j _ h => absurd h (by omega), hst0, by simp [newM]⟩
  case round =>
    obtain ⟨k, S, M1, hk, rfl, rfl, hS, hall, hst, hlF⟩ := hrel
    obtain ⟨wo, rfl⟩ : ∃ wo, wo = wr := ⟨_, rfl⟩
    have hSb : S ≤ 104857620 := by
      have := take_sum n ts k
      have := HSM.out
      omega
    have HS : Hid (type_of% hS) := hS
    have HALL : Hid (type_of% hall) := hall
    obtain ⟨hsame, hbel⟩ := HOLD.out wo hst.fr
    have HBEL : Hid (type_of% hbel) := hbel
    clear hS hall
    by_cases hlt : k < ts.length
    · obtain ⟨bk, ok, an2, ln2, cn2, ak2, lk2, ck2, rfl, hAk, hty, q0, q1, q2, q3⟩ := HEL.out k hlt
      have hk0i : (0 : Int) ≤ (k : Int) := by omega
      have hk1i : (k : Int) < (ts.length : Int) := by omega
      have r0 := (World.cell?_of_block (w := w) (a := ⟨bk, ok + k * 4, none⟩) (hsame bk hAk)).trans q0
      have r1 := (World.cell?_of_block (w := w) (a := ⟨bk, ok + k * 4 + 1, none⟩) (hsame bk hAk)).trans q1
      have r2 := (World.cell?_of_block (w := w) (a := ⟨bk, ok + k * 4 + 2, none⟩) (hsame bk hAk)).trans q2
      have r3 := (World.cell?_of_block (w := w) (a := ⟨bk, ok + k * 4 + 3, none⟩) (hsame bk hAk)).trans q3
      have hstN : Step C newM M1 w0 (wo.alloc (.cells #[.int .i64 ts[k].kind, .string ts[k].name, .slice an2 ln2 cn2, .slice ak2 lk2 ck2] 30)) A := hst.alloc _
      have hbo := HONE.out k hlt
      have HFO := implFormOf n C M1 A _ ts[k] 0 _ hstN.here (hE.step hstN.fr) (hTab.step hstN.fr hst0.here.base) (hty.same (HOLD.out _ hstN.fr).1) hbo (by omega) (by omega)
      have HFO2 : Hid (type_of% HFO) := HFO
      have HSTN : Hid (type_of% hstN) := hstN
      have HNX : Hid (Right n ts[k] 12 → ∀ j (h : j < ts.length), j < k + 1 → Right n ts[j] 12) := fun h2 j hj hjk => by
        by_cases c : j = k
        · subst c; exact h2
        · exact HALL.out j hj (by omega)
      have HN2 : Hid (¬ Right n ts[k] 12 → RR = false) := HNO.out k hlt
      have HSX : Hid (∀ m : Nat, m ≤ 40 * Ty.bulk n ts[k] + 20 → S + m ≤ 40 * ((ts.take (k + 1)).map (Ty.bulk n)).sum + 20 * (k + 1)) := fun m hm => by
        rw [sum_take n ts k hlt]
        have := HS.out
        omega
      have HTX : Hid (Right n ts[k] 12 → ts[k].txt.size ≤ 40 * Ty.bulk n ts[k] + 20) := fun h => by
        rw [← h.text (by omega)]
        exact text_size n _
      have HLF : Hid (M1.F.length + Ty.bulk n ts[k] + 1 ≤ (k + 1) * 1048577) := by
        show _ ≤ _
        omega
      have hbm : 40 * Ty.bulk n ts[k] + 20 ≤ 41943060 := by omega
      clear HFO hstN hty q0 q1 q2 q3 hst hsame hbel HNO HYES HEL HS HONE hE hTab hst0 hlF hbo HALL
      generalize hBK : Ty.bulk n ts[k] = BK at *
      generalize hTK : ts[k] = T at *
      have HBK : Hid (type_of% hBK) := hBK
      clear hTK hBK
      generalize hKK : T.kind = KK at *
      generalize hKN : T.name = KN at *
      go_wp2_with fail
      generalize wo.alloc (.cells #[.int .i64 KK, .string KN, .slice an2 ln2 cn2, .slice ak2 lk2 ck2] 30) = WN at *
      refine HFO2.out.mono ?_
      rintro e w2 ⟨vf, ok2, M2, rfl, hiff, hform, hs2, hl2, _⟩
      have HS2 : Hid (Step C newM M2 w0 w2 A) := HSTN.out.trans hs2
      have HL2 : Hid (M2.F.length ≤ (k + 1) * 1048577) := by
        rw [HBK.out] at hl2
        exact Nat.le_trans hl2 HLF.out
      have HI : Hid (ok2 = true ↔ Right n T 12) := hiff
      have HFM : Hid (type_of% hform) := hform
      clear HFO2 hs2 hl2 hiff hform HSTN HLF r0 r1 r2 r3
      cases ok2 with
      | false =>
        have HR : Hid (RR = false) := HN2.out fun h => by have := HI.out.2 h; cases this
        have HF2 : Hid (Below w.heap.size w w2) := (HOLD.out _ HS2.out.fr).2
        clear HI HN2 HNX HTX HSX HFM HL2 HS2 HOLD
        go_wp2_with fail
        go_ret
        exact ⟨by rw [HR.out]; rfl, HF2.out⟩
      | true =>
        obtain ⟨j, r, hv, hjr, hty⟩ := HFM.out rfl
        have hR := HI.out.1 rfl
        have HSZ0 := implSizeOf j C M2 r w2 HS2.out.here hjr
        rw [← hv, hty] at HSZ0
        have hmq : min T.txt.size 8589934593 ≤ 40 * BK + 20 := Nat.le_trans (Nat.min_le_left _ _) (HTX.out hR)
        generalize min T.txt.size 8589934593 = mq at *
        have HSZ : Hid (type_of% HSZ0) := HSZ0
        have HSQ : Hid (type_of% (HSX.out mq hmq)) := HSX.out mq hmq
        have HAL2 : Hid (type_of% (HNX.out hR)) := HNX.out hR
        clear HSZ0 HI HN2 HNX HTX HSX HFM hR hv hjr hty
        go_wp2_with fail
        refine HSZ.out.mono ?_
        rintro e w3 ⟨M3, rfl, hts⟩
        have HS3 : Hid (Step C newM M3 w0 w3 A ∧ M3.F.length ≤ (k + 1) * 1048577) := ⟨HS2.out.trans (hts.step A), by rw [hts.F]; exact HL2.out⟩
        clear hts HSZ HS2 HL2
        go_wp2_with fail
        go_roundw
        case rel => exact ⟨k + 1, S + mq, M3, by omega, by go_num, by congr 1; omega, HSQ.out, HAL2.out, HS3.out.1, HS3.out.2⟩
        case measure => simp [intOf]; omega
    · have hke : k = ts.length := by omega
      have HR : Hid (true = RR) := (HYES.out fun j h => HALL.out j h (by omega)).symm
      have hSi : (S : Int) ≤ 8589934592 := by omega
      clear HNO HYES HEL HS HALL HONE hE hTab hst0 hst hlF HSM
      go_wp2_with fail
      go_ret
      exact ⟨by rw [← HR.out]; rfl, HBEL.out⟩

end Go.Proofs.YtgjnlphnbfpopaaGreatDoor

namespace Go.Proofs.YtgjnlphnbfpopaaGreatDoor
open Go.RowKit Go.Shelf

theorem putTy_pos {n : Nat} {t : Ty} {d : Int} (h : Right n t d) : 0 < (putTy n t).length := by
  cases n with
  | zero => exact h.elim
  | succ n => rw [putTy, List.length_cons]; omega

set_option maxHeartbeats 3200000 in
set_option maxRecDepth 100000 in
open Classical in
theorem implPutType (n : Nat) (x0 x1 x2 x3 : Value) (t : Ty) (w : World) (A : Nat → Prop) (hA : ∀ b, A b → b < w.heap.size) (h : TyR A w n [x0, x1, x2, x3] t) (hbk : Ty.bulk n t ≤ 1048576) (hc : ClsIs w) (hp : Lib.TabIs Tryz.prog w "internal/strconv.uint64pow10" .u64 Lib.pow10Tab) :
    Calls Tryz.prog 7 #[.agg #[x0, x1, x2, x3]] w fun e w' => e = .returned (.string (putA (decide (Right n t 12)) n t)) ∧ Below w.heap.size w w' := by
  obtain ⟨an, ln, cn, ak, lk, ck, ee⟩ := h.at.shape
  simp only [List.cons.injEq, and_true] at ee
  obtain ⟨rfl, rfl, rfl, rfl⟩ := ee
  have hB1 : Below w.heap.size w (w.alloc (.cells #[.int .i64 t.kind, .string t.name, .slice an ln cn, .slice ak lk ck] 30)) := (Below.refl _ _).alloc (Nat.le_refl _) _
  have hB2 : Below w.heap.size w ((w.alloc (.cells #[.int .i64 t.kind, .string t.name, .slice an ln cn, .slice ak lk ck] 30)).alloc (.cells #[.int .i64 t.kind, .string t.name, .slice an ln cn, .slice ak lk ck] 30)) := hB1.alloc (by simp) _
  have hbx1 : (w.alloc (.cells #[.int .i64 t.kind, .string t.name, .slice an ln cn, .slice ak lk ck] 30)).heap[w.heap.size]? = some (.cells #[.int .i64 t.kind, .string t.name, .slice an ln cn, .slice ak lk ck] 30 (0, 0)) := (MapKept.heap_alloc w _).1
  have hbx2 : ((w.alloc (.cells #[.int .i64 t.kind, .string t.name, .slice an ln cn, .slice ak lk ck] 30)).alloc (.cells #[.int .i64 t.kind, .string t.name, .slice an ln cn, .slice ak lk ck] 30)).heap[w.heap.size + 1]? = some (.cells #[.int .i64 t.kind, .string t.name, .slice an ln cn, .slice ak lk ck] 30 (0, 0)) := by
    have := (MapKept.heap_alloc (w.alloc (.cells #[.int .i64 t.kind, .string t.name, .slice an ln cn, .slice ak lk ck] 30)) (.cells #[.int .i64 t.kind, .string t.name, .slice an ln cn, .slice ak lk ck] 30)).1
    simpa using this
  have hbx3 : ((w.alloc (.cells #[.int .i64 t.kind, .string t.name, .slice an ln cn, .slice ak lk ck] 30)).alloc (.cells #[.int .i64 t.kind, .string t.name, .slice an ln cn, .slice ak lk ck] 30)).heap[w.heap.size]? = some (.cells #[.int .i64 t.kind, .string t.name, .slice an ln cn, .slice ak lk ck] 30 (0, 0)) := ((MapKept.heap_alloc _ _).2 _ (by simp)).trans hbx1
  have hzW : ((w.alloc (.cells #[.int .i64 t.kind, .string t.name, .slice an ln cn, .slice ak lk ck] 30)).alloc (.cells #[.int .i64 t.kind, .string t.name, .slice an ln cn, .slice ak lk ck] 30)).heap.size = w.heap.size + 2 := by simp
  have HCP : Hid (Calls Tryz.prog 15 #[.slice (some ⟨w.heap.size + 1, 0, none⟩) 1 1] ((w.alloc (.cells #[.int .i64 t.kind, .string t.name, .slice an ln cn, .slice ak lk ck] 30)).alloc (.cells #[.int .i64 t.kind, .string t.name, .slice an ln cn, .slice ak lk ck] 30)) fun e w' => e = .returned (.bool (decide (Right n t 12))) ∧ Below ((w.alloc (.cells #[.int .i64 t.kind, .string t.name, .slice an ln cn, .slice ak lk ck] 30)).alloc (.cells #[.int .i64 t.kind, .string t.name, .slice an ln cn, .slice ak lk ck] 30)).heap.size ((w.alloc (.cells #[.int .i64 t.kind, .string t.name, .slice an ln cn, .slice ak lk ck] 30)).alloc (.cells #[.int .i64 t.kind, .string t.name, .slice an ln cn, .slice ak lk ck] 30)) w') := by
    generalize (w.alloc (.cells #[.int .i64 t.kind, .string t.name, .slice an ln cn, .slice ak lk ck] 30)).alloc (.cells #[.int .i64 t.kind, .string t.name, .slice an ln cn, .slice ak lk ck] 30) = W at *
    have e1 : decide (∀ q ∈ [t], Right n q 12) = decide (Right n t 12) := by
      by_cases hr : Right n t 12
      · rw [decide_eq_true hr, decide_eq_true]; intro q hq; rw [List.mem_singleton] at hq; rw [hq]; exact hr
      · rw [decide_eq_false hr, decide_eq_false]; intro hq; exact hr (hq t (List.mem_singleton.2 rfl))
    have hrow : RowR (fun b => A b ∨ b = w.heap.size + 1) W (TyR (fun b => A b ∨ b = w.heap.size + 1) W n) (.slice (some ⟨w.heap.size + 1, 0, none⟩) [t].length 1) [t] := by
      refine .inr ⟨w.heap.size + 1, 0, 1, rfl, .inr rfl, ⟨_, _, hbx2⟩, fun j hj => ?_⟩
      have hj0 : j = 0 := by simp at hj; omega
      subst hj0
      refine ⟨[.int .i64 t.kind, .string t.name, .slice an ln cn, .slice ak lk ck], (h.same fun b hb => hB2.block b (hA b hb)).sub fun b hb => .inl hb, fun c u hu => ?_⟩
      obtain ⟨c0, c1, c2, c3⟩ := block4T hbx2
      match c, hu with
      | 0, hu => simp at hu; subst hu; exact c0
      | 1, hu => simp at hu; subst hu; exact c1
      | 2, hu => simp at hu; subst hu; exact c2
      | 3, hu => simp at hu; subst hu; exact c3
    have := implCanPut n (some ⟨w.heap.size + 1, 0, none⟩) 1 [t] _ W (fun b hb => by rcases hb with hb | hb; (have := hA b hb; omega); omega) hrow (by simp) (by simp; omega) (fun k hk => by
      have hj0 : k = 0 := by simp at hk; omega
      subst hj0
      exact hbk) (hc.below hB2 hc.lt) (Lib.tabBelow_of_tabIs hp W hB2)
    rw [e1] at this
    exact this
  have HBX : Hid (∀ wx : World, Below ((w.alloc (.cells #[.int .i64 t.kind, .string t.name, .slice an ln cn, .slice ak lk ck] 30)).alloc (.cells #[.int .i64 t.kind, .string t.name, .slice an ln cn, .slice ak lk ck] 30)).heap.size ((w.alloc (.cells #[.int .i64 t.kind, .string t.name, .slice an ln cn, .slice ak lk ck] 30)).alloc (.cells #[.int .i64 t.kind, .string t.name, .slice an ln cn, .slice ak lk ck] 30)) wx → (wx.cell? ⟨w.heap.size, 0, none⟩ = some (.int .i64 t.kind) ∧ wx.cell? ⟨w.heap.size, 1, none⟩ = some (.string t.name) ∧ wx.cell? ⟨w.heap.size, 2, none⟩ = some (.slice an ln cn) ∧ wx.cell? ⟨w.heap.size, 3, none⟩ = some (.slice ak lk ck)) ∧ Below w.heap.size w wx) := fun wx hx => ⟨block4T ((hx.block w.heap.size (by omega)).trans hbx3), hB2.trans (hx.mono (by omega))⟩
  by_cases hr : Right n t 12
  · have HP : Hid (∀ wx : World, Below w.heap.size w wx → Calls Tryz.prog 16 #[.slice none 0 0, .agg #[.int .i64 t.kind, .string t.name, .slice an ln cn, .slice ak lk ck]] wx (PutPost wx.heap.size wx (putTy n t))) := fun wx hx =>
      implPut n A wx.heap.size _ [] _ t 12 wx (h.same fun b hb => hx.block b (hA b hb)) (fun b hb => Nat.lt_of_lt_of_le (hA b hb) hx.size) hr (by omega) hbk (Nat.le_refl _) (World.ownsRow_nil _ _ _ _) (by simp)
    have hpos := putTy_pos hr
    have hps := putTy_size n t
    rw [decide_eq_true hr] at HCP ⊢
    rw [show putA true n t = mkB (putTy n t) from rfl]
    clear h hbk hr hc hp hA hbx1 hbx2 hbx3 hB1 hB2 hzW
    generalize putTy n t = V at *
    generalize t.kind = KK at *
    generalize t.name = KN at *
    go_enter Tryz.func7, Tryz.ntmps7
    go_wp2_with fail
    refine HCP.out.mono ?_
    rintro e w2 ⟨rfl, hb2⟩
    obtain ⟨⟨a0, a1, a2, a3⟩, hw2⟩ := HBX.out w2 hb2
    have HP2 : Hid (type_of% (HP.out w2 hw2)) := HP.out w2 hw2
    clear HP HCP hb2 HBX
    go_wp2_with fail
    refine HP2.out.mono ?_
    rintro e w3 ⟨v3, rfl, hown3, hF3⟩
    obtain ⟨g3, cap3, rfl⟩ := owns_pos hown3 hpos
    have hcv : Sem.run Tryz.prog (convert 40 9 (.slice (some ⟨g3, 0, none⟩) V.length cap3)) w3 = .ok (.string ⟨V.toArray⟩) w3 := run_convert_bytes_back (P := Tryz.prog) w3 _ _ _ ⟨g3, 0, none⟩ cap3 V Tryz.underlying40 Tryz.underlying5 Tryz.underlying9 fun j hj => hown3.cells (g := g3) rfl j _ (by simp [Lib.byteCells, hj])
    have HF3 : Hid (Below w.heap.size w w3) := hw2.trans (hF3.below.mono hw2.size)
    clear HP2 hown3 hF3 a0 a1 a2 a3
    go_wp2_with fail
    go_ret
    exact ⟨rfl, HF3.out⟩
  · rw [decide_eq_false hr] at HCP ⊢
    rw [show putA false n t = ⟨#[]⟩ from rfl]
    clear h hbk hr hc hp hA hbx1 hbx2 hbx3 hB1 hB2 hzW
    generalize t.kind = KK at *
    generalize t.name = KN at *
    go_enter Tryz.func7, Tryz.ntmps7
    go_wp2_with fail
    refine HCP.out.mono ?_
    rintro e w2 ⟨rfl, hb2⟩
    obtain ⟨_, hw2⟩ := HBX.out w2 hb2
    clear HCP hb2 HBX
    go_wp2_with fail
    go_ret
    exact ⟨rfl, hw2⟩

end Go.Proofs.YtgjnlphnbfpopaaGreatDoor
