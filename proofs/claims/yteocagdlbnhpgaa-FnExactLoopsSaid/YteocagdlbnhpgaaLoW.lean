/-
  The walk of a book's leaves.
-/
import Derived.Test.YteocagdlbnhpgaaLoM
namespace Go.Proofs.Yteocagdlbnhpgaa
open Go.RowKit

theorem block5V {W : World} {b : Nat} {x0 x1 x2 x3 x4 : Value} (h : W.heap[b]? = some (.cells #[x0, x1, x2, x3, x4] 80 (0, 0))) : (W.cell? ⟨b, 0, none⟩ = some x0 ∧ W.cell? ⟨b, 1, none⟩ = some x1 ∧ W.cell? ⟨b, 2, none⟩ = some x2 ∧ W.cell? ⟨b, 3, none⟩ = some x3 ∧ W.cell? ⟨b, 4, none⟩ = some x4) := by
  refine ⟨?_, ?_, ?_, ?_, ?_⟩
  · rw [cell_of_row W b 0 _ _ (0, 0) h]; rfl
  · rw [cell_of_row W b 1 _ _ (0, 0) h]; rfl
  · rw [cell_of_row W b 2 _ _ (0, 0) h]; rfl
  · rw [cell_of_row W b 3 _ _ (0, 0) h]; rfl
  · rw [cell_of_row W b 4 _ _ (0, 0) h]; rfl

/-- what the walk holds, and how many steps are left at most -/
def LState (n : Nat) (es : List (ByteArray × Ty)) (P0 : Nat) (w0 w : World) (bb Mb : Nat) (pm : Option Addr) (Ms : Nat) (vE : Value) (root : Ty) (k : Nat) (vl vw : Value) (wr : World) : Prop :=
  ∃ W D Ls, LMem w0 w wr bb Mb pm Ms vE vl vw W D Ls ∧ LInv es w0 root W D Ls ∧ potW W + reserve n es D ≤ k ∧ k + Ls.length ≤ P0

/-- what leaves answers -/
def LeavesAns (es : List (ByteArray × Ty)) (w0 w w' : World) (root : Ty) (vl : Value) (ok : Bool) : Prop :=
  (ok = false ∧ ¬ Good es root) ∨ (ok = true ∧ ∃ Ls : List Ent, (∀ q ∈ Ls, q.fits w0 ∧ Leafy q.t ∧ ∀ K L, lvN es K root = some L → q.t ∈ L) ∧ Ls.length ≤ 4194304 ∧ w'.ownsRow w.heap.size 37 4 vl Ls.length (flatE Ls) ∧ Done es (TysOf Ls) root)

theorem leafy_dec {t : Ty} {l : Nat} (hl : l = t.kids.length) : decide (t.kind ≠ 4 ∧ (t.kind ≠ 7 ∨ l = 0)) = true ↔ Leafy t := by
  rw [decide_eq_true_iff]
  unfold Leafy
  rw [hl, List.length_eq_zero_iff]

/-- the place of a stop is of a row that was there -/
theorem key_rows {w0 : World} {p : Ent} (h : EFit w0 p) (hl : ¬ Leafy p.t) : ∀ a, (keyOf p).place = some a → a.block < w0.heap.size ∧ ∃ cur e, w0.heap[a.block]? = some (.cells cur e (0, 0)) := fun a ha => by
  by_cases c : p.t.kind = 4
  · rw [key_name c] at ha
    cases ha
  · have c7 : p.t.kind = 7 := Classical.byContradiction fun x => hl ⟨c, .inl x⟩
    obtain ⟨vn, b, cap, e1, ⟨cur, e, hb⟩, _⟩ := fits_kids (h.fits c)
    rw [key_union c7 e1] at ha
    simp only [Option.some.injEq] at ha
    subst ha
    exact ⟨obj_ltQ hb, cur, e, hb⟩
theorem implStop {w0 : World} {p : Ent} {an ak : Option Addr} {ln cn lk ck : Nat} (h : EFit w0 p) (hl : ¬ Leafy p.t) (hcs : p.cs = [.int .i64 p.t.kind, .string p.t.name, .slice an ln cn, .slice ak lk ck]) (w : World) :
    Calls Try.prog 46 #[.agg #[.int .i64 p.t.kind, .string p.t.name, .slice an ln cn, .slice ak lk ck]] w fun e w' => e = .returned (.agg #[.string (keyOf p).name, .pointer (keyOf p).place, .int .i64 (keyOf p).count]) ∧ Below w.heap.size w w' := by
  by_cases c : p.t.kind = 4
  · have e : keyOf p = ⟨p.t.name, none, 0⟩ := key_name c
    rw [e, c]
    exact implStopName _ _ _ w
  · have c7 : p.t.kind = 7 := Classical.byContradiction fun x => hl ⟨c, .inl x⟩
    obtain ⟨vn, b, cap, e1, _⟩ := fits_kids (h.fits c)
    have e : keyOf p = ⟨⟨#[]⟩, some ⟨b, 0, none⟩, p.t.kids.length⟩ := key_union c7 e1
    rw [hcs] at e1
    simp only [List.cons.injEq, Value.slice.injEq, and_true, true_and] at e1
    obtain ⟨rfl, rfl, rfl, rfl⟩ := e1
    rw [e, c7]
    exact implStopUnion _ _ b _ _ w (by
      have : p.t.kids ≠ [] := fun x => hl ⟨c, .inr x⟩
      exact List.length_pos_iff.2 this)
/-- how the steps that are left turn where a stop is entered -/
theorem pot_enter {n k : Nat} {es : List (ByteArray × Ty)} {w0 : World} {W' : List (Ent × Bool)} {p : Ent} {D : List (Key × Int)} {KS : List Ent} (hb : Behind n es w0 p KS) (hn : lookK D (keyOf p) = none) (h : potW W' + potE (p, false) + reserve n es D ≤ k) :
    potW (W' ++ [(p, true)] ++ KS.map fun q => (q, false)) + reserve n es (setK D (keyOf p) 1) ≤ k - 1 ∧ KS.length ≤ k := by
  have e1 : potW (KS.map fun q => (q, false)) = (KS.map fun q => Ty.cost q.n q.t).sum := by
    unfold potW
    rw [List.map_map]
    rfl
  have e2 : KS.length ≤ potW (KS.map fun q => (q, false)) := by
    have := potW_len (KS.map fun q => (q, false))
    rwa [List.length_map] at this
  have e3 : potE (p, true) = 1 := rfl
  have e4 : potE (p, false) = Ty.cost p.n p.t := rfl
  rw [potW_app, potW_app, potW_one, e3, e1]
  rw [e4] at h
  rw [e1] at e2
  obtain ⟨hq, hk, h4, h7 | ⟨c4, q, rfl, qn, qm⟩⟩ := hb
  · obtain ⟨c7, hkt, hn7⟩ := h7
    have hr := reserve_set n es D (keyOf p) 1
    have : (KS.map fun q => Ty.cost q.n q.t).sum + 2 ≤ Ty.cost p.n p.t := by
      cases KS with
      | nil => exact cost_two p.n p.t
      | cons q r =>
        have hpn := hn7 q (by simp)
        rw [← hpn, Ty.cost, if_pos c7, ← hkt, List.map_map]
        have : ((q :: r).map fun x => Ty.cost x.n x.t) = (q :: r).map (Ty.cost q.n ∘ fun x => x.t) := List.map_congr_left fun x hx => by
          have := hn7 x hx
          have e : x.n = q.n := by omega
          rw [e]
          rfl
        rw [this]
        omega
    exact ⟨by omega, by omega⟩
  · rw [key_name c4] at hn ⊢
    have hr := reserve_name n (v := 1) qm hn
    have h2 := cost_two p.n p.t
    simp only [List.map_cons, List.map_nil, List.sum_cons, List.sum_nil] at e2 ⊢
    rw [qn] at e2 ⊢
    exact ⟨by omega, by omega⟩

set_option maxHeartbeats 6400000 in
set_option maxRecDepth 100000 in
theorem implLeaves (n lo hi : Nat) (v : Value) (es : List (ByteArray × Ty)) (Mb : Nat) (pm : Option Addr) (DB : List (ByteArray × Value)) (p0 : Ent) (w0 w : World) (hrow : EnvIn w0 n lo hi v es) (hhi : hi ≤ w0.heap.size) (hx : Below w0.heap.size w0 w) (hS : SMap w Mb DB) (hD : BookD es es.length DB)
    (hp : EFit w0 p0) (hbk : Ty.cost p0.n p0.t + 2 * envBulk n es ≤ 4194304) :
    Calls Try.prog 24 #[.agg #[v, .map (some Mb), .pointer pm], .agg p0.cs.toArray] w fun e w' => ∃ (vl : Value) (ok : Bool), e = .returned (.tuple #[vl, .bool ok]) ∧ Below w.heap.size w w' ∧ LeavesAns es w0 w w' p0.t vl ok := by
  obtain ⟨j0, hj0, hy0, hy1, hy2⟩ := info_parts Try.infoType
  obtain ⟨i0, hi0, hz0, hz1, hz2⟩ := info_parts Try.infoVisit
  have hmm := @run_makeMap Try.prog
  obtain ⟨bE, capE, hvE⟩ : ∃ b cap, v = .slice (some ⟨b, 0, none⟩) es.length cap := by
    obtain ⟨b, cap, e, _⟩ := hrow
    exact ⟨b, cap, e⟩
  obtain ⟨an, ln, cn, ak, lk, ck, ee⟩ := hp.shape
  have HBH : Hid (∀ (p : Ent) (an ak : Option Addr) (ln cn lk ck : Nat) (wx : World), Below w.heap.size w wx → EFit w0 p → p.cs = [.int .i64 p.t.kind, .string p.t.name, .slice an ln cn, .slice ak lk ck] → ¬ Leafy p.t → Calls Try.prog 47 #[.agg #[v, .map (some Mb), .pointer pm], .agg #[.int .i64 p.t.kind, .string p.t.name, .slice an ln cn, .slice ak lk ck]] wx fun e w' => ∃ (vk : Value) (ok : Bool), e = .returned (.tuple #[vk, .bool ok]) ∧ Below wx.heap.size wx w' ∧ ((ok = false ∧ ¬ Good es p.t) ∨ (ok = true ∧ ∃ KS, Behind n es w0 p KS ∧ KRow w0.heap.size w' vk KS))) :=
    fun p an ak ln cn lk ck wx hwx hp hcs hl => implBehind n lo hi v es Mb DB pm p an ak ln cn lk ck w0 wx hrow hhi (hx.trans (hwx.mono hx.size)) (hS.same (hwx.block Mb hS.lt)) hD hp hcs hl
  have hold := hx.size
  have HBL : Hid (Below w0.heap.size w0 w) := hx
  have hX1 := heap_first w (.cells #[v, .map (some Mb), .pointer pm] 56) (.cells #[.int .i64 p0.t.kind, .string p0.t.name, .slice an ln cn, .slice ak lk ck] 37)
  obtain ⟨X, hX⟩ : ∃ X, X = ((w.alloc (.cells #[v, .map (some Mb), .pointer pm] 56)).alloc (.cells #[.int .i64 p0.t.kind, .string p0.t.name, .slice an ln cn, .slice ak lk ck] 37)).alloc (.map #[] 0) := ⟨_, rfl⟩
  have hXb : Below w.heap.size w X := by rw [hX]; exact (((Below.refl _ _).alloc (Nat.le_refl _) _).alloc (by simp) _).alloc (by simp; omega) _
  have hXz : X.heap.size = w.heap.size + 1 + 1 + 1 := by rw [hX]; simp
  have HST : Hid (LMem w0 w (X.alloc (.cells #[.int .i64 p0.t.kind, .string p0.t.name, .slice an ln cn, .slice ak lk ck, .bool false] 80)) w.heap.size Mb pm (w.heap.size + 1 + 1) v (.slice none 0 0) (.slice (some ⟨w.heap.size + 1 + 1 + 1, 0, none⟩) 1 1) [(p0, false)] [] []) := by
    have hXo : ∀ b, b < X.heap.size → (X.alloc (.cells #[.int .i64 p0.t.kind, .string p0.t.name, .slice an ln cn, .slice ak lk ck, .bool false] 80)).heap[b]? = X.heap[b]? := fun b h => (MapKept.heap_alloc X _).2 b h
    have hXm : X.heap[w.heap.size + 1 + 1]? = some (.map #[] 0) := by
      have := (MapKept.heap_alloc ((w.alloc (.cells #[v, .map (some Mb), .pointer pm] 56)).alloc (.cells #[.int .i64 p0.t.kind, .string p0.t.name, .slice an ln cn, .slice ak lk ck] 37)) (.map #[] 0)).1
      rw [hX]
      simpa using this
    have hX0 : X.heap[w.heap.size]? = some (.cells #[v, .map (some Mb), .pointer pm] 56 (0, 0)) := by
      rw [hX]
      exact ((MapKept.heap_alloc _ _).2 _ (by simp; omega)).trans hX1
    have hfl : flatV [(p0, false)] = [.int .i64 p0.t.kind, .string p0.t.name, .slice an ln cn, .slice ak lk ck, .bool false] := by simp [flatV, visV, ee]
    refine ⟨?_, World.ownsRow_nil _ _ _ _, KMap.made ((hXo _ (by omega)).trans hXm), fun p hp => absurd hp (by simp), by omega, (hXo _ (by omega)).trans hX0, hXb.alloc hXb.size _, hold⟩
    rw [hfl]
    exact own_oneV hXz.symm (by omega) _ _ _ _ _
  have HIN : Hid (LInv es w0 p0.t [(p0, false)] [] []) := LInv.start hp
  have HPO : Hid (potW [(p0, false)] + reserve n es [] ≤ 4194304) := by
    have h1 := reserve_bulk n es
    rw [potW_one]
    show Ty.cost p0.n p0.t + _ ≤ _
    omega
  obtain ⟨mu, hmu⟩ := least_of (LState n es 4194304 w0 w w.heap.size Mb pm (w.heap.size + 1 + 1) v p0.t)
  have HMU : Hid (type_of% hmu) := hmu
  rw [ee]
  clear hrow hhi hx hS hD hp hbk hX1 hXb hmu
  subst hvE
  obtain ⟨vE, hvE⟩ : ∃ vE, vE = Value.slice (some ⟨bE, 0, none⟩) es.length capE := ⟨_, rfl⟩
  subst hX
  go_enter Try.func24, Try.ntmps24
  go_wp2_with fail
  go_loopw [6, 8] (fun vl vw wr => ∃ k, LState n es 4194304 w0 w w.heap.size Mb pm (w.heap.size + 1 + 1) (.slice (some ⟨bE, 0, none⟩) es.length capE) p0.t k vl vw wr) (fun vl vw wr => mu vl vw wr)
  case atStart => exact ⟨4194304, [(p0, false)], [], [], HST.out, HIN.out, HPO.out, by simp⟩
  case round =>
    clear HST HIN HPO hXz
    obtain ⟨wo, rfl⟩ : ∃ wo, wo = wr := ⟨_, rfl⟩
    obtain ⟨k, HK, hst⟩ : ∃ k, Hid (∀ k', k' < k → k' < mu u6 u8 wo) ∧ LState n es 4194304 w0 w w.heap.size Mb pm (w.heap.size + 1 + 1) (.slice (some ⟨bE, 0, none⟩) es.length capE) p0.t k u6 u8 wo := by
      obtain ⟨k, h⟩ := hrel
      exact ⟨_, fun k' h => h, (HMU.out k _ _ _ h).2⟩
    clear hrel
    obtain ⟨W, D, Ls, hM, hI, hpot, hP⟩ := hst
    obtain ⟨al, cl, hvl⟩ := slice_ownT hM.ls
    obtain ⟨aw, cw, hvw⟩ := slice_ownT hM.wk
    subst hvl
    subst hvw
    have hWl := potW_len W
    have hWb : W.length ≤ 4194304 := by omega
    have hLb : Ls.length ≤ 4194304 := by omega
    clear hWl
    by_cases hw0 : 0 < W.length
    · obtain ⟨W', x, hWp⟩ : ∃ W' x, W = W' ++ [x] := ⟨W.dropLast, W.getLast (by intro e; rw [e] at hw0; simp at hw0), (List.dropLast_concat_getLast _).symm⟩
      obtain ⟨p, b⟩ := x
      subst hWp
      obtain ⟨m, hm⟩ : ∃ m, (W' ++ [(p, b)]).length = m + 1 := ⟨W'.length, by simp⟩
      have hm' : W'.length = m := by simpa using hm
      have HM' : Hid (W'.length = m) := hm'
      have hpf : EFit w0 p := hI.fit (p, b) (by simp)
      obtain ⟨an2, ln2, cn2, ak2, lk2, ck2, hcs⟩ := hpf.shape
      have hl5 : (flatV W').length = m * 5 := by rw [flatV_len (w := w0) fun q hq => hI.fit q (List.mem_append_left _ hq), hm']
      have hwk : wo.ownsRow w.heap.size 80 5 (.slice aw (m + 1) cw) (m + 1) (flatV W' ++ visV (p, b)) := by have := hM.wk; rw [hm, flatV_snoc] at this; exact this
      have hvis : visV (p, b) = [.int .i64 p.t.kind, .string p.t.name, .slice an2 ln2 cn2, .slice ak2 lk2 ck2, .bool b] := by
        show p.cs ++ [Value.bool b] = _
        rw [hcs]
        rfl
      obtain ⟨g, capg, e, ⟨hmc1, hmc2⟩, hcell⟩ := last_cells hwk hl5 (by rw [hvis]; rfl)
      simp only [Value.slice.injEq, true_and] at e
      obtain ⟨rfl, rfl⟩ := e
      rw [hvis] at hcell
      have c0 := hcell 0 _ rfl
      have c1 := hcell 1 _ rfl
      have c2 := hcell 2 _ rfl
      have c3 := hcell 3 _ rfl
      have c4 := hcell 4 _ rfl
      rw [Nat.add_zero] at c0
      unfold maxLen at hmc2
      have hMp : LMem w0 w wo w.heap.size Mb pm (w.heap.size + 1 + 1) (.slice (some ⟨bE, 0, none⟩) es.length capE) (.slice al Ls.length cl) (.slice (some ⟨g, 0, none⟩) m cw) W' D Ls := ⟨by rw [hm']; exact ownsRow_pop hl5 hwk, hM.ls, hM.seen, hM.dk, hM.msz, hM.box, hM.bel, hM.old⟩
      have HMP : Hid (type_of% hMp) := hMp
      have HI : Hid (type_of% hI) := hI
      have HPF : Hid (type_of% hpf) := hpf
      have HCS : Hid (type_of% hcs) := hcs
      have HPOT : Hid (potW W' + potE (p, b) + reserve n es D ≤ k) := by rw [potW_app, potW_one] at hpot; exact hpot
      have hk1 : 1 ≤ k := by
        have h1 := HPOT.out
        have h2 : 1 ≤ potE (p, b) := by
          have := potW_len [(p, b)]
          rw [potW_one] at this
          exact this
        omega
      have hm1i : ((m : Int) + 1 - 1) = (m : Int) := by omega
      have hm0i : (0 : Int) ≤ (m : Int) := by omega
      have hmlt : (m : Int) < (m : Int) + 1 := by omega
      have hpos : (0 : Int) < (m : Int) + 1 := by omega
      have hmcap : (m : Int) ≤ (cw : Int) := by omega
      have hmb : m ≤ 4194304 := by omega
      -- the box of the visit
      have hbx1 : Below wo.heap.size wo (wo.alloc (.cells #[.int .i64 p.t.kind, .string p.t.name, .slice an2 ln2 cn2, .slice ak2 lk2 ck2, .bool b] 80)) := (Below.refl _ _).alloc (Nat.le_refl _) _
      have hbxo : (wo.alloc (.cells #[.int .i64 p.t.kind, .string p.t.name, .slice an2 ln2 cn2, .slice ak2 lk2 ck2, .bool b] 80)).heap[wo.heap.size]? = some (.cells #[.int .i64 p.t.kind, .string p.t.name, .slice an2 ln2 cn2, .slice ak2 lk2 ck2, .bool b] 80 (0, 0)) := (MapKept.heap_alloc wo _).1
      have HLE := implIsLeaf p.t.kind p.t.name (.slice an2 ln2 cn2) ak2 lk2 ck2 (wo.alloc (.cells #[.int .i64 p.t.kind, .string p.t.name, .slice an2 ln2 cn2, .slice ak2 lk2 ck2, .bool b] 80))
      rw [hm] at HK ⊢
      by_cases hlf : Leafy p.t
      · have hbf : b = false := by
          cases b with
          | false => rfl
          | true => exact absurd hlf (HI.out.non (p, true) (by simp) rfl).1
        subst hbf
        have hlk0 : lk2 = p.t.kids.length := by
          obtain ⟨_, _, _, e1, _⟩ := fits_kids (hpf.fits hlf.1)
          rw [hcs] at e1
          simp only [List.cons.injEq, Value.slice.injEq, and_true, true_and] at e1
          exact e1.2.2.1
        rw [(leafy_dec hlk0).2 hlf] at HLE
        have HLF : Hid (type_of% HLE) := HLE
        have HIL : Hid (type_of% (hI.leaf hlf)) := hI.leaf hlf
        have hk2 : 2 ≤ k := by
          have h1 := HPOT.out
          have h2 : 2 ≤ potE (p, false) := cost_two p.n p.t
          omega
        have HPO2 : Hid (potW W' + reserve n es D ≤ k - 1 ∧ k - 1 + (Ls ++ [p]).length ≤ 4194304) := by
          have h1 := HPOT.out
          have h2 : 2 ≤ potE (p, false) := cost_two p.n p.t
          rw [List.length_append, List.length_singleton]
          exact ⟨by omega, by omega⟩
        clear HLE hI hpf hcs hwk hvis hcell hMp hm hm' hl5 hpot HPOT HPF HI hlk0 hlf HBH hM HM'
        generalize p.t.kind = kd at *
        generalize p.t.name = tn at *
        go_wp2_with fail
        refine HLF.out.mono ?_
        rintro e w3 ⟨rfl, hb3⟩
        have hb13 : Below wo.heap.size wo w3 := hbx1.trans (hb3.mono hbx1.size)
        have hbo3 := (hb3.block wo.heap.size (by simp)).trans hbxo
        obtain ⟨d0, d1, d2, d3, d4⟩ := block5V hbo3
        have hM3 := (HMP.out.below hb13).below ((Below.refl _ _).alloc (Nat.le_refl _) (.cells #[.int .i64 kd, .string tn, .slice an2 ln2 cn2, .slice ak2 lk2 ck2] 37))
        have how3 := hM3.ls
        have HM3 : Hid (type_of% hM3) := hM3
        have hz3 : w.heap.size ≤ w3.heap.size := by have := hM3.bel.size; have := HMP.out.bel.size; have := hb13.size; omega
        clear hM3 hb3 hbx1 hbxo hb13 hbo3 c0 c1 c2 c3 c4 HLF HMP
        go_wp2_with (at_builtin; refine wpList_append_lies _ rfl _ _ 35 rfl w.heap.size 37 j0 _ 4 72 Try.underlying35 hj0 hy0 hy1 hy2 rfl (by decide) _ _ _ rfl how3 ⟨w3.heap.size, 0, none⟩ 1 1 [.int .i64 kd, .string tn, .slice an2 ln2 cn2, .slice ak2 lk2 ck2] rfl rfl ?d1 ?d2 (by decide) ?d3 ?d4 ?d5 (w3.heap.size + 1) (by simp) ?_)
        case d1 => exact World.news_of_block (cs := #[.int .i64 kd, .string tn, .slice an2 ln2 cn2, .slice ak2 lk2 ck2]) (t := 37) (fr := (0, 0)) (MapKept.heap_alloc w3 _).1
        case d2 => simp [Value.oneCell']
        case d3 => unfold maxLen; omega
        case d4 => omega
        case d5 => simp; omega
        intro gl cl' w5 hown hgrow _ _
        have HST5 : Hid (LState n es 4194304 w0 w w.heap.size Mb pm (w.heap.size + 1 + 1) (.slice (some ⟨bE, 0, none⟩) es.length capE) p0.t (k - 1) (.slice (some ⟨gl, 0, none⟩) (Ls.length + 1) cl') (.slice (some ⟨g, 0, none⟩) m cw) w5) := ⟨W', D, Ls ++ [p], HM3.out.leaf (p := p) (by rw [HCS.out]; exact hown) hgrow, HIL.out, HPO2.out.1, HPO2.out.2⟩
        clear hown hgrow how3 HM3 HIL HPO2 HCS d0 d1 d2 d3 d4
        go_wp2_with fail
        go_roundw
        case rel => exact ⟨_, HST5.out⟩
        case measure => exact Nat.lt_of_le_of_lt (HMU.out _ _ _ _ HST5.out).1 (HK.out (k - 1) (by omega))
      · have hdec : decide (p.t.kind ≠ 4 ∧ (p.t.kind ≠ 7 ∨ lk2 = 0)) = false := by
          rw [Bool.eq_false_iff]
          intro hd
          have h4 := (of_decide_eq_true hd).1
          obtain ⟨_, _, _, e1, _⟩ := fits_kids (hpf.fits h4)
          rw [hcs] at e1
          simp only [List.cons.injEq, Value.slice.injEq, and_true, true_and] at e1
          exact hlf ((leafy_dec e1.2.2.1).1 hd)
        rw [hdec] at HLE
        have HLF : Hid (type_of% HLE) := HLE
        have HSO : Hid (∀ wx, type_of% (implStop hpf hlf hcs wx)) := fun wx => implStop hpf hlf hcs wx
        have HBP : Hid (∀ wx, Below w.heap.size w wx → type_of% (HBH.out p an2 ak2 ln2 cn2 lk2 ck2 wx)) := fun wx _ => HBH.out p an2 ak2 ln2 cn2 lk2 ck2 wx
        have HLL : Hid (¬ Leafy p.t) := hlf
        have HKR : Hid (type_of% (key_rows hpf hlf)) := key_rows hpf hlf
        have HKE : Hid (∃ ks ka kc, keyOf p = ⟨ks, ka, kc⟩) := ⟨_, _, _, rfl⟩
        obtain ⟨ks, ka, kc, hke⟩ := HKE.out
        rw [hke] at HSO
        have HKK : Hid (type_of% hke) := hke
        clear HLE hdec hI hcs hwk hvis hcell hMp hm hm' hl5 hpot hlf HBH hM hke HKE
        go_wp2_with fail
        refine HLF.out.mono ?_
        rintro e w3 ⟨rfl, hb3⟩
        have hb13 : Below wo.heap.size wo w3 := hbx1.trans (hb3.mono hbx1.size)
        have hbo3 := (hb3.block wo.heap.size (by simp)).trans hbxo
        obtain ⟨d0, d1, d2, d3, d4⟩ := block5V hbo3
        clear hb3 hbx1 hbxo c0 c1 c2 c3 c4 HLF
        have HS3 : Hid (type_of% (HSO.out w3)) := HSO.out w3
        go_wp2_with fail
        refine HS3.out.mono ?_
        rintro e w4 ⟨rfl, hb4⟩
        obtain ⟨X5, hX5⟩ : ∃ X5, X5 = w4.alloc (.cells #[.string ks, .pointer ka, .int .i64 kc] 87) := ⟨_, rfl⟩
        have hbx5 : Below w4.heap.size w4 X5 := by rw [hX5]; exact (Below.refl _ _).alloc (Nat.le_refl _) _
        have hbs5 : X5.heap[w4.heap.size]? = some (.cells #[.string ks, .pointer ka, .int .i64 kc] 87 (0, 0)) := by rw [hX5]; exact (MapKept.heap_alloc w4 _).1
        have hb35 : Below w3.heap.size w3 X5 := hb4.trans (hbx5.mono hb4.size)
        have hbo5 := (hb35.block wo.heap.size (obj_ltQ hbo3)).trans hbo3
        have hM5 := (HMP.out.below hb13).below hb35
        obtain ⟨⟨s0, s1, s2⟩, _⟩ := block3S hbs5
        obtain ⟨e0, e1, e2, e3, e4⟩ := block5V hbo5
        have hRW : ∀ wx, Below w.heap.size w wx → RowsOf wx (Key.mk ks ka kc).place := fun wx hwx a ha => by
          obtain ⟨q1, cur, e, q2⟩ := HKR.out a (by rw [HKK.out]; exact ha)
          exact ⟨cur, e, (hwx.block _ (by omega)).trans ((HBL.out.block _ q1).trans q2)⟩
        have HDK : Hid (∀ v, ∀ q ∈ setK D ⟨ks, ka, kc⟩ v, ∀ a, q.1.place = some a → a.block < w0.heap.size) := fun v q hq a ha => by
          rcases set_mem hq with h | h
          · exact HMP.out.dk q h a ha
          · exact (HKR.out a (by rw [HKK.out, ← h]; exact ha)).1
        have HRW : Hid (type_of% hRW) := hRW
        clear hRW hb4 hbx5 d0 d1 d2 d3 d4 HS3 HSO
        cases b with
        | true =>
          obtain ⟨w6, hrun, hS6, hbut⟩ := run_update_stop hM5.seen ⟨ks, ka, kc⟩ (HRW.out _ hM5.bel) 2
          have hrun' : Sem.run Try.prog (Instr.mapUpdate 78 (.map (some (w.heap.size + 1 + 1))) (.agg #[.string ks, .pointer ka, .int .i64 kc]) (.int .i64 2)) X5 = .ok () w6 := hrun
          have HST6 : Hid (LState n es 4194304 w0 w w.heap.size Mb pm (w.heap.size + 1 + 1) (.slice (some ⟨bE, 0, none⟩) es.length capE) p0.t (k - 1) (.slice al Ls.length cl) (.slice (some ⟨g, 0, none⟩) m cw) w6) := by
            refine ⟨W', setK D ⟨ks, ka, kc⟩ 2, Ls, hM5.mark hS6 (HDK.out 2) hbut, ?_, ?_, by omega⟩
            · have := HI.out.left
              rw [HKK.out] at this
              exact this
            · have h1 := HPOT.out
              have h2 := reserve_set n es D ⟨ks, ka, kc⟩ 2
              have h3 : potE (p, true) = 1 := rfl
              omega
          clear hrun hS6 hbut hM5 HRW HDK HKR HKK HI HPOT HMP HBP HPF HCS HLL hpf hbs5 hbo5 hbo3 hb35 hb13
          subst hX5
          go_wp2_with fail
          go_roundw
          case rel => exact ⟨_, HST6.out⟩
          case measure => exact Nat.lt_of_le_of_lt (HMU.out _ _ _ _ HST6.out).1 (HK.out (k - 1) (by omega))
        | false =>
          have hlk := run_lookup_stop hM5.seen ⟨ks, ka, kc⟩ (HRW.out _ hM5.bel)
          have HM5 : Hid (type_of% hM5) := hM5
          by_cases hc2 : lookK D ⟨ks, ka, kc⟩ = some 2
          · rw [hc2] at hlk
            have hlk' : Sem.run Try.prog (Instr.lookup 78 (.map (some (w.heap.size + 1 + 1))) (.agg #[.string ks, .pointer ka, .int .i64 kc]) false) X5 = .ok (.int .i64 2) X5 := hlk
            have HST6 : Hid (LState n es 4194304 w0 w w.heap.size Mb pm (w.heap.size + 1 + 1) (.slice (some ⟨bE, 0, none⟩) es.length capE) p0.t (k - 1) (.slice al Ls.length cl) (.slice (some ⟨g, 0, none⟩) m cw) X5) := by
              refine ⟨W', D, Ls, hM5, HI.out.skip HLL.out (by rw [HKK.out]; exact hc2), ?_, by omega⟩
              have h1 := HPOT.out
              have h2 : 2 ≤ potE (p, false) := cost_two p.n p.t
              omega
            clear hlk hc2 hM5 HM5 HRW HDK HKR HKK HI HPOT HMP HBP HPF HCS HLL hpf hbs5 hbo5 hbo3 hb35 hb13
            subst hX5
            go_wp2_with fail
            go_roundw
            case rel => exact ⟨_, HST6.out⟩
            case measure => exact Nat.lt_of_le_of_lt (HMU.out _ _ _ _ HST6.out).1 (HK.out (k - 1) (by omega))
          · obtain ⟨c, hcc, hc2b⟩ : ∃ c : Int, ((c = 0 ∧ lookK D ⟨ks, ka, kc⟩ = none) ∨ (c = 1 ∧ lookK D ⟨ks, ka, kc⟩ = some 1)) ∧ (c == 2) = false := by
              cases hl : lookK D ⟨ks, ka, kc⟩ with
              | none => exact ⟨0, .inl ⟨rfl, rfl⟩, rfl⟩
              | some v =>
                obtain ⟨_, _, _, _, q⟩ := HI.out.col _ _ hl
                rcases q with ⟨rfl, _⟩ | ⟨rfl, _⟩
                · exact absurd hl hc2
                · exact ⟨1, .inr ⟨rfl, rfl⟩, rfl⟩
            have hgd : (lookK D ⟨ks, ka, kc⟩).getD 0 = c := by rcases hcc with ⟨rfl, q⟩ | ⟨rfl, q⟩ <;> rw [q] <;> rfl
            have HLK : Hid (∀ wx, KMap wx (w.heap.size + 1 + 1) D → Below w.heap.size w wx → Sem.run Try.prog (Instr.lookup 78 (.map (some (w.heap.size + 1 + 1))) (.agg #[.string ks, .pointer ka, .int .i64 kc]) false) wx = .ok (.int .i64 c) wx) := fun wx h1 h2 => by
              have := run_lookup_stop h1 ⟨ks, ka, kc⟩ (HRW.out _ h2)
              rw [hgd] at this
              exact this
            have hlk' := HLK.out X5 hM5.seen hM5.bel
            have HC := HBP.out X5 hM5.bel hM5.bel HPF.out HCS.out HLL.out
            have HCB : Hid (type_of% HC) := HC
            have HCC : Hid (type_of% hcc) := hcc
            have hx0 := hM5.box
            obtain ⟨⟨k0, k1, k2⟩, _⟩ := block3B hx0
            have HBS5 : Hid (type_of% hbs5) := hbs5
            have HBO5 : Hid (type_of% hbo5) := hbo5
            clear hlk hc2 hM5 HC HBP hcc hgd hbs5 hbo5 hbo3 hb35 hb13 hpf hx0
            subst hX5
            go_wp2_with fail
            refine HCB.out.mono ?_
            rintro e w6 ⟨vk, ok, rfl, hb6, hans⟩
            have hM6 := HM5.out.below hb6
            have hbs6 := (hb6.block w4.heap.size (obj_ltQ HBS5.out)).trans HBS5.out
            have hbo6 := (hb6.block wo.heap.size (obj_ltQ HBO5.out)).trans HBO5.out
            obtain ⟨⟨f0, f1, f2⟩, _⟩ := block3S hbs6
            have HB6 : Hid (type_of% hM6.bel) := hM6.bel
            clear HCB hb6 e0 e1 e2 e3 e4 s0 s1 s2 k0 k1 hlk' HBS5 HBO5 HM5
            rcases hans with ⟨rfl, hng⟩ | ⟨rfl, KS, hBe, hKR⟩
            · have HNG : Hid (¬ Good es p0.t) := HI.out.bad hng
              clear hng HI HPOT HRW HKR HKK HDK HMP HPF HCS HLL hM6 hbs6 hbo6 HLK HMU HK
              go_wp2_with fail
              go_ret2
              exact ⟨_, false, rfl, HB6.out, .inl ⟨rfl, HNG.out⟩⟩
            · have hlk6 := HLK.out w6 hM6.seen hM6.bel
              rcases HCC.out with ⟨rfl, hno⟩ | ⟨rfl, h1⟩
              · obtain ⟨w7, hrun, hS7, hbut⟩ := run_update_stop hM6.seen ⟨ks, ka, kc⟩ (HRW.out _ hM6.bel) 1
                have hrun' : Sem.run Try.prog (Instr.mapUpdate 78 (.map (some (w.heap.size + 1 + 1))) (.agg #[.string ks, .pointer ka, .int .i64 kc]) (.int .i64 1)) w6 = .ok () w7 := hrun
                have hM7 := hM6.mark hS7 (HDK.out 1) hbut
                have hbo7 : w7.heap[wo.heap.size]? = some (.cells #[.int .i64 p.t.kind, .string p.t.name, .slice an2 ln2 cn2, .slice ak2 lk2 ck2, .bool false] 80 (0, 0)) := (hbut.2.2.2.2 _ fun q => by
                  obtain ⟨_, _, hm⟩ := hM6.seen.obj
                  rw [q] at hbo6
                  rw [hbo6] at hm
                  simp at hm).trans hbo6
                have hKR7 := hKR.mark hM6.seen hbut
                obtain ⟨e0, e1, e2, e3, e4⟩ := block5V hbo7
                have hA7 : Below w7.heap.size w7 (w7.alloc (.cells #[.int .i64 p.t.kind, .string p.t.name, .slice an2 ln2 cn2, .slice ak2 lk2 ck2, .bool true] 80)) := (Below.refl _ _).alloc (Nat.le_refl _) _
                have hM8 := hM7.below hA7
                have hKR8 := hKR7.below hA7
                have how8 : (w7.alloc (.cells #[.int .i64 p.t.kind, .string p.t.name, .slice an2 ln2 cn2, .slice ak2 lk2 ck2, .bool true] 80)).ownsRow w.heap.size 80 5 (.slice (some ⟨g, 0, none⟩) m cw) m (flatV W') := by have := hM8.wk; rw [HM'.out] at this; exact this
                obtain ⟨bk, capk, hvk⟩ : ∃ bk capk, vk = .slice (some ⟨bk, 0, none⟩) KS.length capk := by
                  obtain ⟨b, cap, _, _, e, _⟩ := hKR
                  exact ⟨b, cap, e⟩
                subst hvk
                have hz7 : w.heap.size ≤ w7.heap.size := hM7.bel.size
                have HPE : Hid (type_of% (pot_enter (k := k) hBe (by rw [HKK.out]; exact hno) HPOT.out)) := pot_enter hBe (by rw [HKK.out]; exact hno) HPOT.out
                have hKl : KS.length ≤ 4194304 := by have := HPE.out.2; omega
                have HIE : Hid (LInv es w0 p0.t (W' ++ [(p, true)] ++ KS.map fun q => (q, false)) (setK D ⟨ks, ka, kc⟩ 1) Ls) := by
                  have := HI.out.enter HLL.out hBe.2.2.1 hBe.1 hBe.2.1
                  rw [HKK.out] at this
                  exact this
                have HKF : Hid (∀ j (h : j < KS.length), KS[j].fits w0) := fun j h => hBe.1 _ (List.getElem_mem h)
                have HM8 : Hid (type_of% hM8) := hM8
                have HKR8 : Hid (type_of% hKR8) := hKR8
                have HVI : Hid (visV (p, true) = [.int .i64 p.t.kind, .string p.t.name, .slice an2 ln2 cn2, .slice ak2 lk2 ck2, .bool true]) := by
                  show p.cs ++ [Value.bool true] = _
                  rw [HCS.out]
                  rfl
                have hKi : (KS.length : Int) ≤ 4194304 := by omega
                obtain ⟨VV, hVV⟩ : ∃ VV : Nat → List (Ent × Bool), ∀ j, VV j = W' ++ [(p, true)] ++ (KS.take j).map fun q => (q, false) := ⟨_, fun _ => rfl⟩
                have HV0 : Hid (VV 0 = W' ++ [(p, true)]) := by
                  show _ = _
                  rw [hVV]
                  simp
                have HVE : Hid (VV KS.length = W' ++ [(p, true)] ++ KS.map fun q => (q, false)) := by
                  show _ = _
                  rw [hVV, List.take_length]
                have HVS : Hid (∀ j (h : j < KS.length), VV (j + 1) = VV j ++ [(KS[j], false)]) := fun j hlt => by
                  rw [hVV, hVV, List.take_succ_eq_append_getElem hlt, List.map_append, List.append_assoc (W' ++ [(p, true)])]
                  rfl
                have HVL : Hid (∀ j, j ≤ KS.length → (VV j).length ≤ 8388609) := fun j hj => by
                  have := HM'.out
                  rw [hVV]
                  simp only [List.length_append, List.length_singleton, List.length_map, List.length_take]
                  omega
                clear hVV
                clear hrun hS7 hbut hM7 hbo7 hKR7 hA7 hM8 hKR8 hM6 hbs6 hbo6 hKR hBe hno HCC HLK HRW HDK HI HPOT HMP HPF HCS HLL
                go_wp2_with (at_builtin; refine wpList_append_lies _ rfl _ _ 81 rfl w.heap.size 80 i0 _ 5 80 Try.underlying81 hi0 hz0 hz1 hz2 rfl (by decide) _ _ _ rfl how8 ⟨w7.heap.size, 0, none⟩ 1 1 [.int .i64 p.t.kind, .string p.t.name, .slice an2 ln2 cn2, .slice ak2 lk2 ck2, .bool true] rfl rfl ?d1 ?d2 (by decide) ?d3 ?d4 ?d5 (w7.heap.size + 1) (by simp) ?_)
                case d1 => exact World.news_of_block (cs := #[.int .i64 p.t.kind, .string p.t.name, .slice an2 ln2 cn2, .slice ak2 lk2 ck2, .bool true]) (t := 80) (fr := (0, 0)) (MapKept.heap_alloc w7 _).1
                case d2 => simp [Value.oneCell']
                case d3 => unfold maxLen; omega
                case d4 => omega
                case d5 => simp; omega
                intro gw cw9 w9 hown hgrow _ _
                have HM9 : Hid (LMem w0 w w9 w.heap.size Mb pm (w.heap.size + 1 + 1) (.slice (some ⟨bE, 0, none⟩) es.length capE) (.slice al Ls.length cl) (.slice (some ⟨gw, 0, none⟩) (m + 1) cw9) (VV 0) (setK D ⟨ks, ka, kc⟩ 1) Ls) := by
                  show LMem _ _ _ _ _ _ _ _ _ _ _ _ _
                  rw [HV0.out]
                  exact HM8.out.push (x := (p, true)) (vw' := .slice (some ⟨gw, 0, none⟩) (m + 1) cw9) (by rw [HVI.out, HM'.out]; exact hown) hgrow
                have HKR9 : Hid (type_of% (HKR8.out.push hold how8 hgrow)) := HKR8.out.push hold how8 hgrow
                clear hown hgrow how8 HM8 HKR8 e0 e1 e2 e3 e4 f0 f1 f2 hlk6 hrun'
                go_wp2_with fail
                go_loopw [77, 8] (fun i vw wx => ∃ j : Nat, j ≤ KS.length ∧ i = .int .i64 j ∧ LMem w0 w wx w.heap.size Mb pm (w.heap.size + 1 + 1) (.slice (some ⟨bE, 0, none⟩) es.length capE) (.slice al Ls.length cl) vw (VV j) (setK D ⟨ks, ka, kc⟩ 1) Ls ∧ KRow w0.heap.size wx (.slice (some ⟨bk, 0, none⟩) KS.length capk) KS) (fun i _ _ => KS.length - (intOf i).toNat)
                case atStart => exact ⟨0, Nat.zero_le _, rfl, HM9.out, HKR9.out⟩
                case round =>
                  clear HM9 HKR9
                  obtain ⟨j, hj, rfl, hM, hKR⟩ := hrel
                  obtain ⟨av, cv, hvw⟩ := slice_ownT hM.wk
                  subst hvw
                  have HM : Hid (type_of% hM) := hM
                  have HKR : Hid (type_of% hKR) := hKR
                  have hN := HVL.out j hj
                  by_cases hlt : j < KS.length
                  · obtain ⟨an3, ln3, cn3, ak3, lk3, ck3, hcs3⟩ := TyIn.shape (HKF.out j hlt)
                    obtain ⟨b', cap', cur', e', hv, _, _, hce⟩ := hKR
                    simp only [Value.slice.injEq, Option.some.injEq, Addr.mk.injEq, and_true, true_and] at hv
                    obtain ⟨rfl, rfl⟩ := hv
                    have hcell := hce j hlt
                    rw [hcs3] at hcell
                    have c0 := hcell 0 _ rfl
                    have c1 := hcell 1 _ rfl
                    have c2 := hcell 2 _ rfl
                    have c3 := hcell 3 _ rfl
                    rw [Nat.add_zero] at c0
                    have hj0i : (0 : Int) ≤ (j : Int) := by omega
                    have hj1i : (j : Int) < (KS.length : Int) := by omega
                    have HVJ : Hid (visV (KS[j], false) = [.int .i64 KS[j].t.kind, .string KS[j].t.name, .slice an3 ln3 cn3, .slice ak3 lk3 ck3, .bool false]) := by
                      show KS[j].cs ++ [Value.bool false] = _
                      rw [hcs3]
                      rfl
                    have hA : Below wr.heap.size wr ((wr.alloc (.cells #[.int .i64 KS[j].t.kind, .string KS[j].t.name, .slice an3 ln3 cn3, .slice ak3 lk3 ck3] 37)).alloc (.cells #[.int .i64 KS[j].t.kind, .string KS[j].t.name, .slice an3 ln3 cn3, .slice ak3 lk3 ck3, .bool false] 80)) := ((Below.refl _ _).alloc (Nat.le_refl _) _).alloc (by simp) _
                    have hM8 := hM.below hA
                    have hKR8 := HKR.out.below hA
                    have how8 := hM8.wk
                    have HM8 : Hid (type_of% hM8) := hM8
                    have HKR8 : Hid (type_of% hKR8) := hKR8
                    have hzr : w.heap.size ≤ wr.heap.size := hM.bel.size
                    clear hM8 hKR8 hM hA hcell hce hcs3 HM HKR
                    generalize KS[j].t.kind = kd at *
                    generalize KS[j].t.name = tn at *
                    go_wp2_with (at_builtin; refine wpList_append_lies _ rfl _ _ 81 rfl w.heap.size 80 i0 _ 5 80 Try.underlying81 hi0 hz0 hz1 hz2 rfl (by decide) _ _ _ rfl how8 ⟨wr.heap.size + 1, 0, none⟩ 1 1 [.int .i64 kd, .string tn, .slice an3 ln3 cn3, .slice ak3 lk3 ck3, .bool false] rfl rfl ?d1 ?d2 (by decide) ?d3 ?d4 ?d5 (wr.heap.size + 1 + 1) (by simp) ?_)
                    case d1 => exact World.news_of_block (cs := #[.int .i64 kd, .string tn, .slice an3 ln3 cn3, .slice ak3 lk3 ck3, .bool false]) (t := 80) (fr := (0, 0)) (heap_second wr _ _)
                    case d2 => simp [Value.oneCell']
                    case d3 => unfold maxLen; omega
                    case d4 => omega
                    case d5 => simp; omega
                    intro gx cx wx hown hgrow _ _
                    have HMN : Hid (LMem w0 w wx w.heap.size Mb pm (w.heap.size + 1 + 1) (.slice (some ⟨bE, 0, none⟩) es.length capE) (.slice al Ls.length cl) (.slice (some ⟨gx, 0, none⟩) ((VV j).length + 1) cx) (VV (j + 1)) (setK D ⟨ks, ka, kc⟩ 1) Ls) := by
                      show LMem _ _ _ _ _ _ _ _ _ _ _ _ _
                      rw [HVS.out j hlt]
                      exact HM8.out.push (x := (KS[j], false)) (by rw [HVJ.out]; exact hown) hgrow
                    have HKN : Hid (type_of% (HKR8.out.push hold how8 hgrow)) := HKR8.out.push hold how8 hgrow
                    clear hown hgrow how8 HM8 HKR8 HVJ c0 c1 c2 c3
                    go_wp2_with fail
                    go_roundw
                    case rel => exact ⟨j + 1, by omega, by go_num, HMN.out, HKN.out⟩
                    case measure => simp [intOf]; omega
                  · have hje : j = KS.length := by omega
                    have HSTN : Hid (LState n es 4194304 w0 w w.heap.size Mb pm (w.heap.size + 1 + 1) (.slice (some ⟨bE, 0, none⟩) es.length capE) p0.t (k - 1) (.slice al Ls.length cl) (.slice av (VV j).length cv) wr) := by
                      have hP1 := HPE.out.1
                      rw [HKK.out] at hP1
                      refine ⟨_, _, Ls, hM, ?_, ?_, by omega⟩
                      · rw [hje, HVE.out]
                        exact HIE.out
                      · rw [hje, HVE.out]
                        exact hP1
                    clear hM hKR HM HKR HPE HIE HKF HKK HVI hje hmm
                    go_wp2_with fail
                    go_roundw
                    case rel => exact ⟨_, HSTN.out⟩
                    case measure => exact Nat.lt_of_le_of_lt (HMU.out _ _ _ _ HSTN.out).1 (HK.out (k - 1) (by omega))
              · have HNG : Hid (¬ Good es p0.t) := HI.out.again HLL.out (by rw [HKK.out]; exact h1)
                clear h1 HI HPOT HRW HKR HKK HDK HMP HPF HCS HLL hM6 hbs6 hbo6 HLK HMU HK hBe hKR HCC
                go_wp2_with fail
                go_ret2
                exact ⟨_, false, rfl, HB6.out, .inl ⟨rfl, HNG.out⟩⟩
    · have hW : W = [] := List.length_eq_zero_iff.1 (by omega)
      subst hW
      have HA : Hid (LeavesAns es w0 w wo p0.t (.slice al Ls.length cl) true) := .inr ⟨rfl, Ls, fun q hq => ⟨hI.lfit q hq, (hI.inn q hq).1, (hI.inn q hq).2⟩, by omega, hM.ls, by
        rcases hI.rt with q | ⟨e, he, _⟩
        · exact q
        · simp at he⟩
      have HB : Hid (type_of% hM.bel) := hM.bel
      clear hM hI hpot hP HBH HMU HK
      go_wp2_with fail
      go_ret2
      exact ⟨_, true, rfl, HB.out, HA.out⟩

end Go.Proofs.Yteocagdlbnhpgaa
