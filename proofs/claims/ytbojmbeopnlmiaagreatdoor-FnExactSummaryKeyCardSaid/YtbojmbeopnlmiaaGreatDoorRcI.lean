/-
 The walk of impl.Reach.
-/
import Derived.Test.YtbojmbeopnlmiaaGreatDoorBkI
import Derived.WalkSmall
namespace Go.Proofs.YtbojmbeopnlmiaaGreatDoor
open Go.RowKit Go.Sort Go.Shelf
theorem four_box {w wx : World} {b : Nat} {x0 x1 x2 x3 : Value} {ty : TypeId} (e : b = w.heap.size) (hb : Below (b + 1) (w.alloc (.cells #[x0, x1, x2, x3] ty)) wx) : wx.cell? ⟨b, 0, none⟩ = some x0 ∧ wx.cell? ⟨b, 1, none⟩ = some x1 ∧ wx.cell? ⟨b, 2, none⟩ = some x2 ∧ wx.cell? ⟨b, 3, none⟩ = some x3 := by
 refine ⟨?_, ?_, ?_, ?_⟩
 ·rw [hb.cell (p := ⟨b, 0, none⟩) (Nat.lt_succ_self _), cellNew _ e]; rfl
 ·rw [hb.cell (p := ⟨b, 1, none⟩) (Nat.lt_succ_self _), cellNew _ e]; rfl
 ·rw [hb.cell (p := ⟨b, 2, none⟩) (Nat.lt_succ_self _), cellNew _ e]; rfl
 ·rw [hb.cell (p := ⟨b, 3, none⟩) (Nat.lt_succ_self _), cellNew _ e]; rfl
def slen : Value → Nat
 | .slice _ l _ => l
 | _ => 0
def FoundAt (wx : World) (ao : Option Addr) (r : List ByteArray) (vn : Value) : Prop := ∀ j (h : j < r.length), ∃ g cur, ao = some ⟨g, 0, none⟩ ∧ wx.heap[g]? = some (.cells cur 9 (0, 0)) ∧ cur[j]? = some (.string r[j]) ∧ vn.ownBlock ≠ some g
theorem FoundAt.keep {wx w' : World} {ao : Option Addr} {r : List ByteArray} {vn vn' : Value} (h : FoundAt wx ao r vn) (hk : ∀ g cur, wx.heap[g]? = some (.cells cur 9 (0, 0)) → vn.ownBlock ≠ some g → w'.heap[g]? = wx.heap[g]? ∧ vn'.ownBlock ≠ some g) : FoundAt w' ao r vn' := fun j hj => by
 obtain ⟨g, cur, h1, h2, h3, h4⟩ := h j hj
 obtain ⟨k1, k2⟩ := hk g cur h2 h4
 exact ⟨g, cur, h1, k1.trans h2, h3, k2⟩
theorem FoundAt.below {wx w' : World} {ao : Option Addr} {r : List ByteArray} {vn : Value} (h : FoundAt wx ao r vn) (hb : Below wx.heap.size wx w') : FoundAt w' ao r vn := h.keep fun g _ h1 h2 => ⟨hb.block g (obj_lt h1), h2⟩
theorem FoundAt.mark {wx w' : World} {ao : Option Addr} {r : List ByteArray} {vn : Value} {M : Nat} {D : List (ByteArray × Value)} (h : FoundAt wx ao r vn) (hM : SMap wx M D) (hb : But M wx w') : FoundAt w' ao r vn := h.keep fun g cur h1 h2 => ⟨hb.2.2.2.2 g fun e => by
 obtain ⟨es, clock, hm⟩ := hM.obj
 subst e
 rw [h1] at hm
 simp at hm, h2⟩
theorem FoundAt.name {wx w' : World} {ao : Option Addr} {r : List ByteArray} {vn : Value} {g' l c : Nat} (h : FoundAt wx ao r vn) (hg : wx.grownBy w' vn.ownBlock) (hat : vn.ownBlock = some g' ∨ g' = wx.heap.size) : FoundAt w' ao r (.slice (some ⟨g', 0, none⟩) l c) := h.keep fun g cur h1 h2 => by
 refine ⟨hg.block g (obj_lt h1) h2.symm, fun e => ?_⟩
 simp only [Value.ownBlock, Option.some.injEq] at e
 subst e
 rcases hat with q | q
 ·exact h2 q
 ·have := obj_lt h1; omega
theorem FoundAt.work {wx w' : World} {ao : Option Addr} {r : List ByteArray} {vn vw : Value} {B n : Nat} {xs : List Value} (h : FoundAt wx ao r vn) (ho : wx.ownsRow B 30 4 vw n xs) (hg : wx.grownBy w' vw.ownBlock) : FoundAt w' ao r vn := h.keep fun g cur h1 h2 => ⟨hg.block g (obj_lt h1) fun e => by
 obtain ⟨_, cur', hc'⟩ := own_objR ho e.symm
 rw [h1] at hc'
 simp at hc', h2⟩
theorem FoundAt.new {w1 w2 : World} {a : Option Addr} {r : List ByteArray} {c B m : Nat} {vn : Value} {xs : List Value} (ho : w2.ownsRow w1.heap.size 9 1 (.slice a r.length c) r.length (strV r)) (hn : w1.ownsRow B 9 1 vn m xs) : FoundAt w2 a r vn := fun j hj => by
 rcases ho.2 with ⟨_, h0⟩ | ⟨g, cap, cur, hv, hg, hh, h1, h2, h3, h4⟩
 ·omega
 ·simp only [Value.slice.injEq, true_and] at hv
  refine ⟨g, cur, hv.1, hh, ?_, fun e => by have := (hn.lt g e).2; omega⟩
  have := congrArg (fun l => l[j]?) h4
  simp only [Nat.mul_one] at this
  rw [List.getElem?_take_of_lt hj] at this
  rw [← Array.getElem?_toList, this]
  simp [strV, hj]
theorem lookSeen {W : World} {M : Nat} {D : List (ByteArray × Value)} (hM : SMap W M D) (s : ByteArray) : Sem.run Tryz.prog (Instr.lookup 142 (.map (some M)) (.string s) false) W = .ok (match lookD D s with | some v => v | none => .int .i64 0) W := by
 have := run_lookup_text (P := Tryz.prog) (T := 142) (k := 9) (e := 3) (z := .int .i64 0) Tryz.underlying142 Tryz.underlying9 (by kernel_rfl) hM s false
 exact this
theorem tyin_le {n : Nat} {es : List (ByteArray × Ty)} {t T : Ty} {zs : List ByteArray} (h : Has es t zs T) : Ty.bulk n T ≤ envBulk n es + Ty.bulk n t := by
 rcases h with rfl | ⟨x, _, j, hj, rfl⟩
 ·omega
 ·have := env_bulk n es j hj.1
  omega
set_option maxHeartbeats 3200000 in
set_option maxRecDepth 100000 in
theorem implReach (n lo hi loE hiE : Nat) (vE : Value) (es : List (ByteArray × Ty)) (cs : List Value) (t : Ty) (w : World) (hE : EnvIn w n loE hiE vE es) (hhE : hiE ≤ w.heap.size) (hT : TyUp w n lo hi cs t) (hbk : envBulk n es + Ty.bulk n t ≤ 1048576) :
  Calls Tryz.prog 108 #[vE, .agg cs.toArray] w fun e w' => ∃ ao cap r, e = .returned (.slice ao r.length cap) ∧ w'.ownsRow w.heap.size 9 1 (.slice ao r.length cap) r.length (strV r) ∧ r.length ≤ 1048577 ∧ Asc r ∧ (∀ x, x ∈ r ↔ Rch n es t x) ∧ Below w.heap.size w w' := by
 obtain ⟨i0, hi0, hz0, hz1, hz2⟩ := info_parts Tryz.infoString
 obtain ⟨j0, hj0, hy0, hy1, hy2⟩ := info_parts Tryz.infoType
 obtain ⟨an, ln, cn, ak, lk, ck, ee⟩ := hT.shape
 have hmm := @run_makeMap Tryz.prog
 have hN := all_few n es t
 have hlen : es.length ≤ 1048576 := by unfold envBulk at hbk; omega
 obtain ⟨bE, capE, hvE⟩ : ∃ b cap, vE = .slice (some ⟨b, 0, none⟩) es.length cap := by
  obtain ⟨b, cap, e, _⟩ := hE
  exact ⟨b, cap, e⟩
 obtain ⟨p0, hp0, hp1, hp2, hp3⟩ : ∃ p0 : Ent, p0.cs = cs ∧ p0.t = t ∧ p0.n = n ∧ p0.up w := ⟨⟨n, lo, hi, cs, t⟩, rfl, rfl, rfl, hT⟩
 have hB1 : Below w.heap.size w (w.alloc (.cells #[.int .i64 t.kind, .string t.name, .slice an ln cn, .slice ak lk ck] 30)) := (Below.refl _ _).alloc (Nat.le_refl _) _
 have HNB : Hid (type_of% (implNewBook n vE es _ (hE.at.below hB1) hlen)) := implNewBook n vE es _ (hE.at.below hB1) hlen
 have HFD : Hid (∀ (M : Nat) (D : List (ByteArray × Value)) (pm : Option Addr) (s : ByteArray) (wx : World), Below w.heap.size w wx → SMap wx M D → BookD es es.length D → Calls Tryz.prog 131 #[.agg #[vE, .map (some M), .pointer pm], .string s] wx fun e w' => ∃ (x0 x1 x2 x3 : Value) (ok : Bool), e = .returned (.tuple #[.agg #[x0, x1, x2, x3], .bool ok]) ∧ FindAns w n es s [x0, x1, x2, x3] ok ∧ Below wx.heap.size wx w') := fun M D pm s wx hx hM hD => implFind n loE hiE vE es M D pm s w wx hE hhE hx hM hD
 have HNM : Hid (∀ (p : Ent) (wx : World), p.n = n → p.up w → Below w.heap.size w wx → Ty.bulk n p.t ≤ 1048576 → Calls Tryz.prog 130 #[.agg p.cs.toArray] wx fun e w' => ∃ ao cap r, e = .returned (.slice ao r.length cap) ∧ w'.ownsRow wx.heap.size 9 1 (.slice ao r.length cap) r.length (strV r) ∧ r.length ≤ 1048577 ∧ Asc r ∧ (∀ x, x ∈ r ↔ namesIn n p.t x) ∧ Below wx.heap.size wx w') := fun p wx hp hf hx hb => by
  subst hp
  exact implNames p.n p.lo p.hi p.cs p.t wx (TyUp.below hf hx (Nat.le_refl _)) hb
 have HBK : Hid (type_of% hbk) := hbk
 have hNN : (allNames n es t).length ≤ 1048577 := by omega
 obtain ⟨N, hNe⟩ : ∃ N, N = (allNames n es t).length := ⟨_, rfl⟩
 have HFEW : Hid (∀ zs Ws cur, RP n es t zs Ws cur → zs.length ≤ N) := fun zs Ws cur h => by rw [hNe]; exact h.few
 rw [← hNe] at hNN
 have hcs : flatE [p0] = [.int .i64 t.kind, .string t.name, .slice an ln cn, .slice ak lk ck] := by simp [flatE, hp0, ee]
 clear hE hT hbk hN hNe
 subst hvE
 subst ee
 have HP0 : Hid (RP n es t [] ([p0].map (·.t)) none ∧ ∀ p ∈ [p0], p.n = n ∧ p.up w) := ⟨by simpa [hp1] using RP.start n es t, fun p hp => by simp only [List.mem_singleton] at hp; subst hp; exact ⟨hp2, hp3⟩⟩
 have HCS : Hid (type_of% hcs) := hcs
 clear hcs hp0 hp1 hp2 hp3
 obtain ⟨T0, hT0⟩ : ∃ T0, T0 = t := ⟨_, rfl⟩
 go_enter Tryz.func108, Tryz.ntmps108
 go_wp2_with fail
 refine HNB.out.mono ?_
 rintro e w2 ⟨Mb, D, pm, rfl, hSM, hBD, hMb, hb2⟩
 have hw2 : w.heap.size + 1 ≤ w2.heap.size := by have := hb2.size; simpa using this
 obtain ⟨b0, b1, b2, b3⟩ := four_box rfl (hb2.mono (by simp))
 have hbw2 : Below w.heap.size w w2 := hB1.trans (hb2.mono (by simp))
 have HBD : Hid (BookD es es.length D) := hBD
 have HMB : Hid (SMap w2 Mb D) := hSM
 obtain ⟨X, hX⟩ : ∃ X, X = (w2.alloc (.cells #[.slice (some ⟨bE, 0, none⟩) es.length capE, .map (some Mb), .pointer pm] 144)).alloc (.map #[] 0) := ⟨_, rfl⟩
 have hbX : Below w2.heap.size w2 X := by rw [hX]; exact ((Below.refl _ _).alloc (Nat.le_refl _) _).alloc (by simp) _
 have hXz : X.heap.size = w2.heap.size + 1 + 1 := by rw [hX]; simp
 have a0 := (hbX.cell (p := ⟨w.heap.size, 0, none⟩) hw2).trans b0
 have a1 := (hbX.cell (p := ⟨w.heap.size, 1, none⟩) hw2).trans b1
 have a2 := (hbX.cell (p := ⟨w.heap.size, 2, none⟩) hw2).trans b2
 have a3 := (hbX.cell (p := ⟨w.heap.size, 3, none⟩) hw2).trans b3
 have hX1 : X.heap[w2.heap.size]? = some (.cells #[.slice (some ⟨bE, 0, none⟩) es.length capE, .map (some Mb), .pointer pm] 144 (0, 0)) := by rw [hX]; exact heap_first w2 _ _
 have hX2 : X.heap[w2.heap.size + 1]? = some (.map #[] 0) := by rw [hX]; exact heap_second w2 _ _
 have HST : Hid (RMem w (X.alloc (.cells #[.int .i64 t.kind, .string t.name, .slice an ln cn, .slice ak lk ck] 30)) Mb pm D w2.heap.size (w2.heap.size + 1) (.slice (some ⟨bE, 0, none⟩) es.length capE) (.slice none 0 0) (.slice (some ⟨w2.heap.size + 1 + 1, 0, none⟩) 1 1) [] [] [p0]) := by
  have hXo : ∀ b o, X.heap[b]? = some o → (X.alloc (.cells #[.int .i64 t.kind, .string t.name, .slice an ln cn, .slice ak lk ck] 30)).heap[b]? = some o := fun b o h => ((MapKept.heap_alloc X _).2 b (obj_lt h)).trans h
  have hXb : Below w.heap.size w X := hbw2.trans (hbX.mono hbw2.size)
  refine ⟨World.ownsRow_nil _ _ _ _, ?_, SMap.made (hXo _ _ hX2), HMB.out.same ?_, hXo _ _ hX1, hXb.alloc hXb.size _⟩
  ·rw [HCS.out]
   exact own_oneT hXz.symm (by omega) _ _ _ _
  ·exact ((MapKept.heap_alloc X _).2 Mb (by have := HMB.out.lt; omega)).trans (hbX.block Mb HMB.out.lt)
 have hMne : Mb ≠ w2.heap.size + 1 := by have := HMB.out.lt; omega
 clear HNB hSM hBD hb2 hMb hbX hX1 hX2 b0 b1 b2 b3 HMB
 subst hX
 go_wp2_with fail
 go_loopw [6, 8] (fun vn vw wr => ∃ (zs : List ByteArray) (W : List Ent), RMem w wr Mb pm D w2.heap.size (w2.heap.size + 1) (.slice (some ⟨bE, 0, none⟩) es.length capE) vn vw zs zs W ∧ RP n es t zs (W.map (·.t)) none ∧ (∀ p ∈ W, p.n = n ∧ p.up w) ∧ W.length ≤ zs.length + 1) (fun vn vw _ => 2 * (N - slen vn) + slen vw)
 case atStart => exact ⟨[], [p0], HST.out, HP0.out.1, HP0.out.2, by simp⟩
 case round =>
  clear HST HP0 a0 a1 a2 a3 HCS hXz p0
  obtain ⟨zs, W, hM, hR, hF, hWz⟩ := hrel
  obtain ⟨az, cz, hvn⟩ := slice_ownT hM.nm
  obtain ⟨aw, cw, hvw⟩ := slice_ownT hM.wk
  subst hvn
  subst hvw
  have hzN := HFEW.out _ _ _ hR
  have HM : Hid (type_of% hM) := hM
  have HR : Hid (type_of% hR) := hR
  have HF : Hid (type_of% hF) := hF
  by_cases hw0 : 0 < W.length
  ·obtain ⟨W', p, hWp⟩ : ∃ W' p, W = W' ++ [p] := ⟨W.dropLast, W.getLast (by intro e; rw [e] at hw0; simp at hw0), (List.dropLast_concat_getLast _).symm⟩
   obtain ⟨m, hm⟩ : ∃ m, W.length = m + 1 := ⟨W'.length, by rw [hWp]; simp⟩
   have hm' : W'.length = m := by rw [hWp] at hm; simpa using hm
   obtain ⟨hpn, hpf⟩ := hF p (by rw [hWp]; simp)
   have hwk : wr.ownsRow w.heap.size 30 4 (.slice aw (m + 1) cw) (m + 1) (flatE W' ++ p.cs) := by have := hM.wk; rw [hm, hWp, flatE_snoc] at this; exact this
   obtain ⟨g, capg, e, hcell⟩ := row_cells hM.wk (fun q hq => (hF q hq).2) m (by omega)
   have hWm : W[m]'(by omega) = p := by subst hm'; simp [hWp]
   rw [hWm] at hcell
   rw [hm] at e
   simp only [Value.slice.injEq, true_and] at e
   obtain ⟨rfl, rfl⟩ := e
   obtain ⟨an2, ln2, cn2, ak2, lk2, ck2, hcs⟩ := TyUp.shape hpf
   rw [hcs] at hcell
   have c0 := hcell 0 _ rfl
   have c1 := hcell 1 _ rfl
   have c2 := hcell 2 _ rfl
   have c3 := hcell 3 _ rfl
   rw [Nat.add_zero] at c0
   have hmc : m + 1 ≤ cw ∧ cw ≤ maxLen := by
    rcases hwk.2 with ⟨h0, _⟩ | ⟨g', cap', cur, hv, _, _, h1, h2, _⟩
    ·cases h0
    ·simp only [Value.slice.injEq, true_and] at hv
     rw [hv.2]
     exact ⟨h1, h2⟩
   obtain ⟨hmc1, hmc2⟩ := hmc
   unfold maxLen at hmc2
   have hl4 : (flatE W').length = m * 4 := by rw [flatE_len (w := w) fun q hq => (hF q (by rw [hWp]; exact List.mem_append_left _ hq)).2, hm']
   have hMp : RMem w wr Mb pm D w2.heap.size (w2.heap.size + 1) (.slice (some ⟨bE, 0, none⟩) es.length capE) (.slice az zs.length cz) (.slice (some ⟨g, 0, none⟩) m cw) zs zs W' := ⟨hM.nm, by rw [hm']; exact ownsRow_pop hl4 hwk, hM.seen, hM.book, hM.box, hM.bel⟩
   have HMP : Hid (type_of% hMp) := hMp
   have hRp : RP n es t zs (W'.map (·.t)) (some p.t) := by
    have := hR
    rw [hWp, List.map_append] at this
    exact RP.pop this
   have HRP : Hid (type_of% hRp) := hRp
   have HFP : Hid (∀ q ∈ W', q.n = n ∧ q.up w) := fun q hq => hF q (by rw [hWp]; exact List.mem_append_left _ hq)
   have HNM2 : Hid (Calls Tryz.prog 130 #[.agg #[.int .i64 p.t.kind, .string p.t.name, .slice an2 ln2 cn2, .slice ak2 lk2 ck2]] wr fun e w' => ∃ ao cap r, e = .returned (.slice ao r.length cap) ∧ w'.ownsRow wr.heap.size 9 1 (.slice ao r.length cap) r.length (strV r) ∧ r.length ≤ 1048577 ∧ Asc r ∧ (∀ x, x ∈ r ↔ namesIn n p.t x) ∧ Below wr.heap.size wr w') := by
    have := HNM.out p wr hpn hpf hM.bel (Nat.le_trans (tyin_le (hRp.cu _ rfl)) HBK.out)
    rw [hcs] at this
    exact this
   have hmz : m ≤ zs.length := by omega
   have hm1i : ((m : Int) + 1 - 1) = (m : Int) := by omega
   have hm0i : (0 : Int) ≤ (m : Int) := by omega
   have hmlt : (m : Int) < (m : Int) + 1 := by omega
   have hpos : (0 : Int) < (m : Int) + 1 := by omega
   have hmcap : (m : Int) ≤ (cw : Int) := by omega
   rw [hm]
   clear HM HR HF hM hR hF HNM hcell hwk hMp hRp hl4 hWm hWp hm hw0 hWz
   generalize p.t.kind = kd at *
   generalize p.t.name = tn at *
   go_wp2_with fail
   refine HNM2.out.mono ?_
   rintro e w3 ⟨ao, capr, r, rfl, hor, hrl, _, hrm, hb3⟩
   have hM3 := HMP.out.below hb3
   have HM3 : Hid (type_of% hM3) := hM3
   have HFA3 : Hid (FoundAt w3 ao r (.slice az zs.length cz)) := FoundAt.new hor HMP.out.nm
   have HRM : Hid (type_of% hrm) := hrm
   clear HMP HNM2 hor hrm hb3 hM3 c0 c1 c2 c3
   go_wp2_with fail
   go_loopw [36, 6, 8] (fun i vn vw wx => ∃ (k : Nat) (ys : List ByteArray) (W : List Ent), k ≤ r.length ∧ i = .int .i64 k ∧ RMem w wx Mb pm D w2.heap.size (w2.heap.size + 1) (.slice (some ⟨bE, 0, none⟩) es.length capE) vn vw ys ys W ∧ RP n es t ys (W.map (·.t)) (some p.t) ∧ (∀ q ∈ W, q.n = n ∧ q.up w) ∧ (∀ j (h : j < r.length), j < k → r[j] ∈ ys) ∧ FoundAt wx ao r vn ∧ zs.length ≤ ys.length ∧ W.length + zs.length ≤ m + ys.length) (fun i _ _ _ => r.length - (intOf i).toNat)
   case atStart => exact ⟨0, zs, W', Nat.zero_le _, rfl, HM3.out, HRP.out, HFP.out, fun j _ h => absurd h (by omega), HFA3.out, Nat.le_refl _, by omega⟩
   case round =>
    clear HM3 HRP HFP HFA3
    obtain ⟨k, ys, W, hk, rfl, hM, hR, hF, hall, hFA, hzy, hWy⟩ := hrel
    obtain ⟨ay, cy, hvn⟩ := slice_ownT hM.nm
    obtain ⟨av, cv, hvw⟩ := slice_ownT hM.wk
    subst hvn
    subst hvw
    have hyN := HFEW.out _ _ _ hR
    have HM : Hid (type_of% hM) := hM
    have HR : Hid (type_of% hR) := hR
    have HF : Hid (type_of% hF) := hF
    have HALL : Hid (type_of% hall) := hall
    have HFA : Hid (type_of% hFA) := hFA
    by_cases hlt : k < r.length
    ·obtain ⟨g2, cur, rfl, hg2, hc2, hne⟩ := hFA k hlt
     have c0 : wr.cell? ⟨g2, k, none⟩ = some (.string r[k]) := by rw [cell_of_row _ _ _ _ _ _ hg2]; exact hc2
     have hk0i : (0 : Int) ≤ (k : Int) := by omega
     have hk1i : (k : Int) < (r.length : Int) := by omega
     have hlk := lookSeen hM.seen r[k]
     have hnx : namesIn n p.t r[k] := (HRM.out _).1 (List.getElem_mem hlt)
     by_cases hs : r[k] ∈ ys
     ·have HA2 : Hid (∀ j (h : j < r.length), j < k + 1 → r[j] ∈ ys) := fun j hj hjk => by
       by_cases c : j = k
       ·subst c; exact hs
       ·exact hall j hj (by omega)
      rw [(seen_look ys r[k]).1 hs] at hlk
      simp only at hlk
      clear hM hR hF hall hFA hg2 hc2 hne hnx hs HALL
      generalize r[k] = x at *
      go_wp2_with fail
      go_roundw
      case rel => exact ⟨k + 1, ys, W, by omega, by go_num, HM.out, HR.out, HF.out, HA2.out, HFA.out, hzy, hWy⟩
      case measure => simp [intOf]; omega
     ·have hsn := (seen_look ys r[k]).2 hs
      rw [hsn] at hlk
      simp only at hlk
      obtain ⟨w4, hrun, hS4, hbut⟩ := run_update_text (P := Tryz.prog) (T := 142) (k := 9) (e := 3) Tryz.underlying142 Tryz.underlying9 hM.seen r[k] hsn (.int .i64 1)
      have hM4 := hM.mark hMne (by omega) hS4 hbut
      have hFA4 := hFA.mark hM.seen hbut
      have hA4 : Below w4.heap.size w4 (w4.alloc (.cells #[.string r[k]] 9)) := (Below.refl _ _).alloc (Nat.le_refl _) _
      have hM5 := hM4.below hA4
      have hFA5 := hFA4.below hA4
      have how5 := hM5.nm
      have HM5 : Hid (type_of% hM5) := hM5
      have HFA5 : Hid (type_of% hFA5) := hFA5
      have hz4 : w.heap.size ≤ w4.heap.size := hM4.bel.size
      have HA2 : Hid (∀ j (h : j < r.length), j < k + 1 → r[j] ∈ ys ++ [r[k]]) := fun j hj hjk => by
       by_cases c : j = k
       ·subst c; simp
       ·exact List.mem_append_left _ (hall j hj (by omega))
      have HPU : Hid ((∀ j (hj : First es r[k] j), RP n es t (ys ++ [r[k]]) (W.map (·.t) ++ [(es[j]'hj.1).2]) (some p.t)) ∧ ((∀ j (h : j < es.length), es[j].1 ≠ r[k]) → RP n es t (ys ++ [r[k]]) (W.map (·.t)) (some p.t))) := ⟨fun j hj => hR.put2 hnx hs hj, fun h => hR.put hnx hs h⟩
      clear hM hR hF hall hFA hg2 hc2 hne hnx hs HALL hsn hS4 hbut hM4 hFA4 hA4 hM5 hFA5 HM HR HFA HRM
      generalize r[k] = x at *
      go_wp2_with (at_builtin; refine wpList_append_lies _ rfl _ _ 22 rfl w.heap.size 9 i0 (.string ⟨#[]⟩) 1 16 Tryz.underlying22 hi0 hz0 hz1 hz2 rfl (by decide) _ _ _ rfl how5 ⟨w4.heap.size, 0, none⟩ 1 1 [.string x] rfl rfl ?c1 ?c2 (by decide) ?c3 ?c4 ?c5 (w4.heap.size + 1) (by simp) ?_)
      case c2 => rfl
      case c3 => unfold maxLen; omega
      case c4 => omega
      case c5 => omega
      intro gn cn5 w5 hown5 hgrow5 hat5 _
      have hM6 := HM5.out.name hown5 hgrow5
      have hFA6 := HFA5.out.name (l := ys.length + 1) (c := cn5) hgrow5 (by simpa using hat5)
      obtain ⟨⟨k0, k1, k2⟩, _⟩ := block3B hM6.box
      have HF6 : Hid (type_of% (HFD.out Mb D pm x w5 hM6.bel hM6.book HBD.out)) := HFD.out Mb D pm x w5 hM6.bel hM6.book HBD.out
      have HM6 : Hid (type_of% hM6) := hM6
      have HFA6 : Hid (type_of% hFA6) := hFA6
      clear hown5 hgrow5 hat5 hM6 hFA6 how5 HM5 HFA5
      go_wp2_with fail
      refine HF6.out.mono ?_
      rintro e w6 ⟨y0, y1, y2, y3, ok, rfl, hfa, hb6⟩
      have hM7 := HM6.out.below hb6
      have hFA7 := HFA6.out.below hb6
      have hz6 : w.heap.size ≤ w6.heap.size := hM7.bel.size
      clear HF6 HM6 HFA6 hb6 k0 k1
      rcases hfa with ⟨rfl, j, hj, lo', hi', hty⟩ | ⟨rfl, hno, ee⟩
      ·obtain ⟨an3, ln3, cn3, ak3, lk3, ck3, ee⟩ := hty.shape
       simp only [List.cons.injEq, and_true] at ee
       obtain ⟨rfl, rfl, rfl, rfl⟩ := ee
       have HRN := HPU.out.1 j hj
       have HHF : Hid (∀ q ∈ W ++ [(⟨n, lo', hi', [.int .i64 (es[j]'hj.1).2.kind, .string (es[j]'hj.1).2.name, .slice an3 ln3 cn3, .slice ak3 lk3 ck3], (es[j]'hj.1).2⟩ : Ent)], q.n = n ∧ q.up w) := fun q hq => by
        rcases List.mem_append.1 hq with h | h
        ·exact HF.out q h
        ·simp only [List.mem_singleton] at h
         subst h
         exact ⟨rfl, TyIn.up hty⟩
       have HRN2 : Hid (RP n es t (ys ++ [x]) ((W ++ [(⟨n, lo', hi', [.int .i64 (es[j]'hj.1).2.kind, .string (es[j]'hj.1).2.name, .slice an3 ln3 cn3, .slice ak3 lk3 ck3], (es[j]'hj.1).2⟩ : Ent)]).map (·.t)) (some p.t)) := by rw [List.map_append]; exact HRN
       clear HRN HPU HF hty HFD HBD HBK
       generalize (es[j]'hj.1).2 = U at *
       have hA : Below w6.heap.size w6 ((w6.alloc (.cells #[.int .i64 U.kind, .string U.name, .slice an3 ln3 cn3, .slice ak3 lk3 ck3] 30)).alloc (.cells #[.int .i64 U.kind, .string U.name, .slice an3 ln3 cn3, .slice ak3 lk3 ck3] 30)) := ((Below.refl _ _).alloc (Nat.le_refl _) _).alloc (by simp) _
       have hM8 := hM7.below hA
       have hFA8 := hFA7.below hA
       have how8 := hM8.wk
       have HM8 : Hid (type_of% hM8) := hM8
       have HFA8 : Hid (type_of% hFA8) := hFA8
       have hWl : W.length ≤ 4194304 := by omega
       clear hM8 hFA8 hM7 hFA7 hA
       go_wp2_with (at_builtin; refine wpList_append_lies _ rfl _ _ 28 rfl w.heap.size 30 j0 _ 4 72 Tryz.underlying28 hj0 hy0 hy1 hy2 rfl (by decide) _ _ _ rfl how8 ⟨w6.heap.size + 1, 0, none⟩ 1 1 [.int .i64 U.kind, .string U.name, .slice an3 ln3 cn3, .slice ak3 lk3 ck3] rfl rfl ?d1 ?d2 (by decide) ?d3 ?d4 ?d5 (w6.heap.size + 1 + 1) (by simp) ?_)
       case d1 => exact World.news_of_block (cs := #[.int .i64 U.kind, .string U.name, .slice an3 ln3 cn3, .slice ak3 lk3 ck3]) (t := 30) (fr := (0, 0)) (heap_second w6 _ _)
       case d2 => simp [Value.oneCell']
       case d3 => unfold maxLen; omega
       case d4 => omega
       case d5 => simp; omega
       intro gw cw8 w8 hown8 hgrow8 _ _
       have HM9 : Hid (type_of% (HM8.out.work (p := ⟨n, lo', hi', [.int .i64 U.kind, .string U.name, .slice an3 ln3 cn3, .slice ak3 lk3 ck3], U⟩) hown8 hgrow8)) := HM8.out.work hown8 hgrow8
       have HFA9 : Hid (type_of% (HFA8.out.work how8 hgrow8)) := HFA8.out.work how8 hgrow8
       have hyl : zs.length ≤ (ys ++ [x]).length ∧ (W ++ [(⟨n, lo', hi', [.int .i64 U.kind, .string U.name, .slice an3 ln3 cn3, .slice ak3 lk3 ck3], U⟩ : Ent)]).length + zs.length ≤ m + (ys ++ [x]).length := by simp only [List.length_append, List.length_singleton]; omega
       clear hown8 hgrow8 how8 HM8 HFA8
       go_wp2_with fail
       go_roundw
       case rel => exact ⟨k + 1, ys ++ [x], _, by omega, by go_num, HM9.out, HRN2.out, HHF.out, HA2.out, HFA9.out, hyl.1, hyl.2⟩
       case measure => simp [intOf]; omega
      ·simp only [List.cons.injEq, and_true] at ee
       obtain ⟨rfl, rfl, rfl, rfl⟩ := ee
       have HRN : Hid (type_of% (HPU.out.2 hno)) := HPU.out.2 hno
       have hA : Below w6.heap.size w6 (w6.alloc (.cells #[.int .i64 0, .string ⟨#[]⟩, .slice none 0 0, .slice none 0 0] 30)) := (Below.refl _ _).alloc (Nat.le_refl _) _
       have HM8 : Hid (type_of% (hM7.below hA)) := hM7.below hA
       have HFA8 : Hid (type_of% (hFA7.below hA)) := hFA7.below hA
       have hyl : zs.length ≤ (ys ++ [x]).length ∧ W.length + zs.length ≤ m + (ys ++ [x]).length := by rw [List.length_append, List.length_singleton]; omega
       clear HPU hno hM7 hFA7 hA HFD HBD HBK
       go_wp2_with fail
       go_roundw
       case rel => exact ⟨k + 1, ys ++ [x], W, by omega, by go_num, HM8.out, HRN.out, HF.out, HA2.out, HFA8.out, hyl.1, hyl.2⟩
       case measure => simp [intOf]; omega
    ·have hke : k = r.length := by omega
     have HRD : Hid (type_of% (hR.done fun y hy => by
      obtain ⟨j, hj, rfl⟩ := List.getElem_of_mem ((HRM.out y).2 hy)
      exact hall j hj (by omega))) := hR.done fun y hy => by
      obtain ⟨j, hj, rfl⟩ := List.getElem_of_mem ((HRM.out y).2 hy)
      exact hall j hj (by omega)
     clear hM hR hF hall hFA HR HALL HFA HFD HBK HBD hmm
     go_wp2_with fail
     go_roundw
     case rel => exact ⟨ys, W, HM.out, HRD.out, HF.out, by omega⟩
     case measure =>
      simp only [slen]
      omega
  ·have hW : W = [] := List.length_eq_zero_iff.1 (by omega)
   subst hW
   have HALL : Hid (∀ x, x ∈ sorted zs ↔ Rch n es t x) := fun x => (sorted_mem zs x).trans (hR.all x)
   have HASC : Hid (Asc (sorted zs)) := sorted_asc hR.nd
   have hsl := sorted_len zs
   have hbe := hM.bel
   have how := hM.nm
   clear HM HR HF hM hR hF HNM HFD HBD HBK HFEW hmm
   rcases how.2 with ⟨hv, h0⟩ | ⟨g, cz', cur, hv, hg, _⟩
   ·simp only [Value.slice.injEq] at hv
    obtain ⟨rfl, _, rfl⟩ := hv
    have hz0' : zs = [] := List.length_eq_zero_iff.1 h0
    subst hz0'
    go_wp2_with fail
    refine (Tryz.slices_Sort_string_none none 0 wr).mono ?_
    rintro e w3 ⟨rfl, rfl⟩
    go_wp2_with fail
    go_ret
    have he : sorted [] = [] := List.length_eq_zero_iff.1 hsl
    exact ⟨none, 0, [], rfl, World.ownsRow_nil _ _ _ _, by simp, he ▸ HASC.out, he ▸ HALL.out, hbe⟩
   ·simp only [Value.slice.injEq, true_and] at hv
    obtain ⟨rfl, rfl⟩ := hv
    have HS := sortS how (by omega)
    have HS2 : Hid (type_of% HS) := HS
    have HO : Hid (type_of% how) := how
    clear how HS
    go_wp2_with fail
    refine HS2.out.mono ?_
    rintro e w3 ⟨rfl, nn, os, rfl⟩
    obtain ⟨F1, F2⟩ := sort_end (nn := nn) (os := os) HO.out hbe hbe.size
    go_wp2_with fail
    go_ret
    refine ⟨some ⟨g, 0, none⟩, cz, sorted zs, by rw [hsl]; rfl, F1, by omega, HASC.out, HALL.out, F2⟩
end Go.Proofs.YtbojmbeopnlmiaaGreatDoor
