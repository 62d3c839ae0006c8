/-
  The walk of impl.unionOf.
-/
import Derived.Test.YtjihkebafoajdaaGreatDoorUnF
import Derived.Test.YtjihkebafoajdaaGreatDoorTypeD
namespace Go.Proofs.YtjihkebafoajdaaGreatDoor
open Go.RowKit

/-- the union that is being made -/
structure Box1 (W wr : World) (k : Nat) (v : Value) (X : List Value) : Prop where
  box : wr.heap[W.heap.size]? = some (.cells #[v] 68 (0, 0))
  own : wr.ownsRow (W.heap.size + 1) 48 1 v k X
  old : Below W.heap.size W wr
theorem block1U {W : World} {b : Nat} {x : Value} (h : W.heap[b]? = some (.cells #[x] 68 (0, 0))) : W.cell? ⟨b, 0, none⟩ = some x ∧ W.frozen? ⟨b, 0, none⟩ = false := by
  constructor
  · rw [cell_of_row W b 0 _ _ _ h]; rfl
  · simp [World.frozen?, h]
theorem Box1.step {W wr w4 : World} {k : Nat} {v v' : Value} {X X' : List Value} {o1 o2 : Obj} (h : Box1 W wr k v X) (hg : ((wr.alloc o1).alloc o2).grownBy w4 v.ownBlock) (hown : w4.ownsRow (W.heap.size + 1) 48 1 v' (k + 1) X') : Box1 W (w4.setCell ⟨W.heap.size, 0, none⟩ v') (k + 1) v' X' := by
  have hlt : W.heap.size < wr.heap.size := (Array.getElem?_eq_some_iff.1 h.box).1
  have hN : ∀ g, v.ownBlock = some g → W.heap.size + 1 ≤ g := fun g e => (h.own.lt g e).1
  have keep : ∀ b, b < wr.heap.size → v.ownBlock ≠ some b → w4.heap[b]? = wr.heap[b]? := fun b hb hne => (hg.block b (by simp; omega) fun e => hne e.symm).trans (((MapKept.heap_alloc (wr.alloc o1) o2).2 b (by simp; omega)).trans ((MapKept.heap_alloc wr o1).2 b hb))
  refine ⟨?_, ?_, ?_⟩
  · have hb : w4.heap[W.heap.size]? = some (.cells #[v] 68 (0, 0)) := (keep _ hlt fun e => by have := hN _ e; omega).trans h.box
    exact heap_setCell_same w4 W.heap.size 0 _ _ _ hb
  · refine ⟨hown.1, ?_⟩
    rcases hown.2 with q | ⟨g, cap, cur, q1, q2, q3, q4⟩
    · exact .inl q
    · refine .inr ⟨g, cap, cur, q1, q2, ?_, q4⟩
      rw [Below.heap_setCell _ _ _ _ (by simp; omega)]
      exact q3
  · have h1 : Below W.heap.size W ((wr.alloc o1).alloc o2) := (h.old.alloc (by omega) _).alloc (by simp; omega) _
    exact (h1.grown hg (by simp; omega) (fun j hj => by have := hN j hj; omega)).setCell (Nat.le_refl _) _

theorem cellOld_anyU {w : World} {o : Obj} {b i : Nat} {u : Value} (h : w.cell? ⟨b, i, none⟩ = some u) (hb : b < w.heap.size) : (w.alloc o).cell? ⟨b, i, none⟩ = some u := (cellOld i hb).trans h
theorem frozen_sameU {w w' : World} {b : Nat} (o : Nat) (h : w'.heap[b]? = w.heap[b]?) : w'.frozen? ⟨b, o, none⟩ = w.frozen? ⟨b, o, none⟩ := by simp only [World.frozen?, h]

/-- the union that was made, as a form -/
theorem Box1.form {W wr w : World} {B lo hi n : Nat} {v : Value} {L : List WE} (h : Box1 W wr L.length v (L.map fun e => .iface e.T e.x)) (hH : HoldW w B lo hi n L) (hw : Below w.heap.size w wr) (hB : B ≤ w.heap.size) (hh : hi ≤ w.heap.size) (hlo : lo ≤ W.heap.size) (h0 : 0 < L.length) : ∃ a c, v = .slice a L.length c ∧ FormIn wr B (n + 1) lo wr.heap.size (.iface 68 (.agg #[.slice a L.length c])) (.mk 7 ⟨#[]⟩ [] (L.map (·.t))) := by
  obtain ⟨g, cap, rfl⟩ := own_some h.own h0
  have hcap : L.length ≤ cap := by
    rcases h.own.2 with ⟨_, q⟩ | ⟨g', c', cur, e, _, _, q, _⟩
    · omega
    · cases e; exact q
  have hg := h.own.lt g rfl
  refine ⟨_, _, rfl, .slice (some ⟨g, 0, none⟩) L.length cap, .slice none 0 0, rfl, fun w' _ => .inl ⟨rfl, none, 0, rfl⟩, .inr ⟨g, cap, by simp, by simpa using hcap, by omega, hg.2, fun j hj => ?_⟩⟩
  have hj' : j < L.length := by simpa using hj
  refine ⟨lo, wr.heap.size, .iface L[j].T L[j].x, Nat.le_refl _, Nat.le_refl _, ?_, ?_⟩
  · rw [h.own.cellAt j (by omega)]
    simp [hj']
  · have := (hH _ (List.getElem_mem hj')).step hw hB hh
    simpa using this

theorem atoms_len {n : Nat} {ts : List Ty} (hr : ∀ q ∈ ts, Right n q 12) (hbk : rowBulk n ts ≤ 274877906944) (k : Nat) : (atoms (ts.take k)).length ≤ 274877906944 := by
  have h1 := atoms_bulk fun t ht => hr t (List.mem_of_mem_take (i := k) ht)
  have h2 := sum_le n ts k
  have h3 : (ts.take k).length ≤ ts.length := by rw [List.length_take]; omega
  unfold rowBulk at hbk
  omega
theorem atoms_more {ts : List Ty} (k : Nat) (h : k < ts.length) : atoms (ts.take (k + 1)) = atoms (ts.take k) ++ atoms [ts[k]] := by rw [List.take_succ_eq_append_getElem h, atoms_app]
theorem atoms_7 {t : Ty} (h : t.kind = 7) : atoms [t] = t.kids := by simp [atoms, h]
theorem atoms_1 {t : Ty} (h : t.kind ≠ 7) : atoms [t] = [t] := by simp [atoms, h]

theorem own_new {w : World} {B e g n cap z : Nat} {xs : List Value} (h : w.ownsRow B e z (.slice (some ⟨g, 0, none⟩) n cap) n xs) : ∀ j u, xs[j]? = some u → w.cell? ((⟨g, 0, none⟩ : Addr).add j) = some u := fun j u hu => by
  have hadd : (⟨g, 0, none⟩ : Addr).add j = ⟨g, j, none⟩ := by unfold Addr.add; split <;> simp_all
  have hj : j < n * z := by rw [← h.1]; exact (List.getElem?_eq_some_iff.1 hu).1
  rw [hadd, h.cellAt j hj, hu]
theorem flat_one (n : Nat) (l : List WE) : ∀ u ∈ flatW n l, u.oneCell' = true := fun u hu => by
  obtain ⟨e, _, he⟩ := List.mem_flatMap.1 hu
  simp only [encW, List.mem_cons, List.not_mem_nil, or_false] at he
  rcases he with rfl | rfl <;> rfl

theorem one_map (L : List WE) (h : L.length = 1) : L.map (·.t) = [(L[0]'(by omega)).t] := by
  match L, h with
  | [e], _ => rfl

set_option maxHeartbeats 6400000 in
set_option maxRecDepth 100000 in
theorem implUnionOf (B lo hi n : Nat) (a : Option Addr) (c : Nat) (ts : List Ty) (w : World) (hBw : B ≤ w.heap.size) (hlo : lo ≤ w.heap.size) (hhi : hi ≤ w.heap.size) (hP : PartsAt w (InQ w B lo hi n) (.slice a ts.length c) ts) (hr : ∀ q ∈ ts, Right n q 12) (h0 : ts ≠ []) (hbk : rowBulk n ts ≤ 274877906944) :
    Calls Tryz.prog 21 #[.slice a ts.length c] w fun e w' => ∃ (T : Nat) (x : Value) (t : Ty), e = .returned (.iface T x) ∧ FormIn w' B (n + 1) lo w'.heap.size (.iface T x) t ∧ UForm n ts t ∧ Below w.heap.size w w' := by
  obtain ⟨i0, hi0, hz0, hz1, hz2⟩ := info_parts Tryz.infoWorded
  obtain ⟨j0, hj, hy0, hy1, hy2⟩ := info_parts Tryz.infoForm
  have hlen : ts.length ≤ 274877906944 := by unfold rowBulk at hbk; omega
  obtain ⟨a', c', e', hel⟩ := partsOpen hP
  simp only [Value.slice.injEq, true_and] at e'
  obtain ⟨rfl, rfl⟩ := e'
  have HEL : Hid (∀ k (hk : k < ts.length), ∃ b off T x, a = some ⟨b, off, none⟩ ∧ b < w.heap.size ∧ w.cell? ⟨b, off + k, none⟩ = some (.iface T x) ∧ InQ w B lo hi n (.iface T x) ts[k]) := fun k hk => by
    obtain ⟨b, off, u, h1, h2, h3⟩ := hel k hk
    obtain ⟨T, x, rfl⟩ := form_iface h3.at
    exact ⟨b, off, T, x, h1, World.block_lt_of_cell? w ⟨b, off + k, none⟩ h2, h2, h3⟩
  have HR : Hid (type_of% hr) := hr
  have HBK : Hid (type_of% hbk) := hbk
  have H0 : Hid (type_of% h0) := h0
  have HAL : Hid (∀ k, (atoms (ts.take k)).length ≤ 274877906944) := atoms_len hr hbk
  clear hP hel hr hbk h0
  go_enter Tryz.func21, Tryz.ntmps21
  go_wp2_with fail
  go_loopw [3, 14] (fun v i wr => ∃ (k : Nat) (l : List WE), k ≤ ts.length ∧ i = .int .i64 k ∧ l.map (·.t) = atoms (ts.take k) ∧ (∀ q ∈ ts.take k, q.kind ≠ 3) ∧ HoldW w B lo hi n l ∧ wr.ownsRow w.heap.size 73 2 v l.length (flatW n l) ∧ Below w.heap.size w wr) (fun _ i _ => ts.length - (intOf i).toNat)
  case atStart => exact ⟨0, [], Nat.zero_le _, rfl, by simp [atoms], fun q hq => absurd hq (by simp), fun e he => absurd he (by simp), World.ownsRow_nil _ _ _ _, Below.refl _ _⟩
  case round =>
    obtain ⟨wo, rfl⟩ : ∃ wo, wo = wr := ⟨_, rfl⟩
    obtain ⟨k, l, hk, rfl, hlt, hn3, hW, ho, hbe⟩ := hrel
    obtain ⟨av, cv, hv⟩ := slice_ownW ho
    subst hv
    have hlb : l.length ≤ 274877906944 := by have := HAL.out k; rw [← hlt] at this; simpa using this
    have HW : Hid (type_of% hW) := hW
    have HLT : Hid (type_of% hlt) := hlt
    have HN3 : Hid (type_of% hn3) := hn3
    have HO : Hid (type_of% ho) := ho
    have hz : w.heap.size ≤ wo.heap.size := hbe.size
    clear hW hlt hn3 ho
    by_cases hkl : k < ts.length
    · obtain ⟨b, off, T, x, rfl, hbl, q0, hfm⟩ := HEL.out k hkl
      have C0 := (hbe.cell (p := ⟨b, off + k, none⟩) hbl).trans q0
      have hk0 : (0 : Int) ≤ (k : Int) := by omega
      have hk1 : (k : Int) < (ts.length : Int) := by omega
      have hrk := HR.out _ (List.getElem_mem hkl)
      have hbu : Ty.bulk n ts[k] < 274877906944 := by
        have h1 := kid_bulk n ts k hkl
        have h2 := HBK.out
        unfold rowBulk at h2
        omega
      clear q0
      by_cases c3 : ts[k].kind = 3
      · obtain ⟨x', e', ⟨a3, l3, c3', hx⟩, h3⟩ := assert3 hfm.at c3
        simp only [Value.iface.injEq] at e'
        obtain ⟨rfl, rfl⟩ := e'
        subst hx
        have HF : Hid (∀ w', Below w.heap.size w w' → FormIn w' B (n + 1) lo w'.heap.size (.iface 67 (.agg #[.slice a3 l3 c3'])) ts[k] ∧ UForm n ts ts[k]) := fun w' h => ⟨hfm.up.step h hBw hhi, .inl ⟨⟨_, List.getElem_mem hkl, c3⟩, any_of hrk c3⟩⟩
        clear hfm c3 hrk HR HBK HAL HEL HLT HN3 HO HW
        generalize ts[k] = t at *
        go_wp2_with fail
        go_ret
        have hb9 := hbe.alloc hz (.cells #[.slice a3 l3 c3'] 67)
        exact ⟨_, _, t, rfl, (HF.out _ hb9).1, (HF.out _ hb9).2, hb9⟩
      · have HN2 : Hid (∀ q ∈ ts.take (k + 1), q.kind ≠ 3) := fun q hq => by
          rw [List.take_succ_eq_append_getElem hkl, List.mem_append, List.mem_singleton] at hq
          rcases hq with hq | hq
          · exact HN3.out q hq
          · subst hq; exact c3
        have HA1 := HAL.out (k + 1)
        by_cases c7 : ts[k].kind = 7
        · obtain ⟨m, rfl⟩ : ∃ m, n = m + 1 := by
            cases n with
            | zero => exact hrk.elim
            | succ m => exact ⟨m, rfl⟩
          obtain ⟨a7, l7, e7, _, h3, h7⟩ := assert7 hfm.at c7
          simp only [Value.iface.injEq] at e7
          obtain ⟨rfl, rfl⟩ := e7
          have hP7 := hfm.kids c7
          have HC : Hid (∀ wx, Below w.heap.size w wx → Calls Tryz.prog 39 #[.slice a7 ts[k].kids.length l7] wx (WordPost w wx B lo hi (m + 1) ts[k].kids)) := fun wx hx => word7 hx hP7 hrk c7 (by omega)
          have HK1 : Hid (∀ wx : World, Calls Tryz.prog 40 #[.agg #[.slice a7 ts[k].kids.length l7]] wx fun e w' => e = .returned (.slice a7 ts[k].kids.length l7) ∧ w' = wx.alloc (.cells #[.slice a7 ts[k].kids.length l7] 65)) := fun wx => implKids a7 ts[k].kids.length l7 wx
          have HMO : Hid (∀ l2 : List WE, l2.map (·.t) = ts[k].kids → (l ++ l2).map (·.t) = atoms (ts.take (k + 1)) ∧ (l ++ l2).length ≤ 274877906944) := fun l2 h2 => by
            have e1 : (l ++ l2).map (·.t) = atoms (ts.take (k + 1)) := by rw [List.map_append, HLT.out, h2, atoms_more k hkl, atoms_7 c7]
            exact ⟨e1, by rw [← e1] at HA1; simpa using HA1⟩
          clear hfm c3 c7 hrk HR HBK HAL HEL HLT HN3 hP7 hbu HA1
          generalize ts[k].kids = kids at *
          generalize kids.length = lk at *
          go_wp2_with fail
          refine (HK1.out _).mono ?_
          rintro e w1 ⟨rfl, rfl⟩
          have hb1 : Below w.heap.size w ((wo.alloc (.cells #[.slice a7 lk l7] 68)).alloc (.cells #[.slice a7 lk l7] 65)) := (hbe.alloc hz _).alloc (by simp; omega) _
          have ho1 := (HO.out.alloc (.cells #[.slice a7 lk l7] 68)).alloc (.cells #[.slice a7 lk l7] 65)
          have HC1 : Hid (type_of% (HC.out _ hb1)) := HC.out _ hb1
          clear HC HO HK1
          go_wp2_with fail
          refine HC1.out.mono ?_
          rintro e w2 ⟨g2, cap2, l2, rfl, hl0, hl1, hm2, hW2, ho2, hb2⟩
          have how := kept_belowT ho1 hb2
          have D2 := hb1.trans (hb2.mono hb1.size)
          have hz2' : w.heap.size ≤ w2.heap.size := D2.size
          have HM : Hid (type_of% (HMO.out l2 hm2)) := HMO.out l2 hm2
          have HW2 : Hid (HoldW w B lo hi (m + 1) (l ++ l2)) := fun e he => by
            rcases List.mem_append.1 he with he | he
            · exact HW.out e he
            · exact hW2 e he
          have HO2 : Hid (type_of% ho2) := ho2
          have hfl : (flatW (m + 1) l2).length = l2.length * 2 := flatW_len _ _
          have hone := flat_one (m + 1) l2
          have hnew := own_new ho2
          clear hW2 ho2 hm2 HMO HC1 hb2 ho1 hb1
          go_wp2_with (at_builtin; refine wpList_append_lies _ rfl _ _ 63 rfl w.heap.size 73 i0 _ 2 32 Tryz.underlying63 hi0 hz0 hz1 hz2 rfl (by decide) _ _ _ rfl how ⟨g2, 0, none⟩ l2.length cap2 (flatW (m + 1) l2) rfl hfl hnew hone hl0 ?d3 ?d4 ?d5 w2.heap.size rfl ?_)
          case d3 => unfold maxLen; omega
          case d4 => omega
          case d5 => exact hz2'
          intro gl cl w3 hown hgrow _ _
          have HON : Hid (w3.ownsRow w.heap.size 73 2 (.slice (some ⟨gl, 0, none⟩) (l.length + l2.length) cl) (l ++ l2).length (flatW (m + 1) (l ++ l2))) := by
            rw [flatW_app, List.length_append]
            exact hown
          have HB3 : Hid (type_of% (D2.grown hgrow hz2' (fun j hj => (how.lt j hj).1))) := D2.grown hgrow hz2' (fun j hj => (how.lt j hj).1)
          clear hown hgrow how D2 hnew hone hfl
          go_wp2_with fail
          go_roundw
          case rel => exact ⟨k + 1, l ++ l2, by omega, by go_num, HM.out.1, HN2.out, HW2.out, HON.out, HB3.out⟩
          case measure => simp [intOf]; omega
        · obtain ⟨a3, l3, c3', h3⟩ := assertAny hfm.at
          obtain ⟨a7, l7, c7', h7⟩ := assertUnion hfm.at (right_kind hrk)
          rw [decide_eq_false c3] at h3
          rw [decide_eq_false c7] at h7
          have HC : Hid (∀ wx, Below w.heap.size w wx → ∀ b, wx.cell? ⟨b, 0, none⟩ = some (.iface T x) → Calls Tryz.prog 39 #[.slice (some ⟨b, 0, none⟩) 1 1] wx (WordPost w wx B lo hi n [ts[k]])) := fun wx hx b hb => word1 hx hb hfm hrk hbu
          have HMO : Hid (∀ l2 : List WE, l2.map (·.t) = [ts[k]] → (l ++ l2).map (·.t) = atoms (ts.take (k + 1)) ∧ (l ++ l2).length ≤ 274877906944) := fun l2 h2 => by
            have e1 : (l ++ l2).map (·.t) = atoms (ts.take (k + 1)) := by rw [List.map_append, HLT.out, h2, atoms_more k hkl, atoms_1 c7]
            exact ⟨e1, by rw [← e1] at HA1; simpa using HA1⟩
          clear hfm c3 c7 hrk HR HBK HAL HEL HLT HN3 hbu HA1
          generalize ts[k] = tk at *
          have hb1 : Below w.heap.size w (wo.alloc (.cells #[.iface T x] 48)) := hbe.alloc hz _
          have ho1 := HO.out.alloc (.cells #[.iface T x] 48)
          have HC1 : Hid (type_of% (HC.out _ hb1 wo.heap.size (cellNew 0 rfl))) := HC.out _ hb1 wo.heap.size (cellNew 0 rfl)
          clear HC HO
          go_wp2_with fail
          refine HC1.out.mono ?_
          rintro e w2 ⟨g2, cap2, l2, rfl, hl0, hl1, hm2, hW2, ho2, hb2⟩
          have how := kept_belowT ho1 hb2
          have D2 := hb1.trans (hb2.mono hb1.size)
          have hz2' : w.heap.size ≤ w2.heap.size := D2.size
          have HM : Hid (type_of% (HMO.out l2 hm2)) := HMO.out l2 hm2
          have HW2 : Hid (HoldW w B lo hi n (l ++ l2)) := fun e he => by
            rcases List.mem_append.1 he with he | he
            · exact HW.out e he
            · exact hW2 e he
          have HO2 : Hid (type_of% ho2) := ho2
          have hfl : (flatW n l2).length = l2.length * 2 := flatW_len _ _
          have hone := flat_one n l2
          have hnew := own_new ho2
          clear hW2 ho2 hm2 HMO HC1 hb2 ho1 hb1
          go_wp2_with (at_builtin; refine wpList_append_lies _ rfl _ _ 63 rfl w.heap.size 73 i0 _ 2 32 Tryz.underlying63 hi0 hz0 hz1 hz2 rfl (by decide) _ _ _ rfl how ⟨g2, 0, none⟩ l2.length cap2 (flatW n l2) rfl hfl hnew hone hl0 ?d3 ?d4 ?d5 w2.heap.size rfl ?_)
          case d3 => unfold maxLen; omega
          case d4 => omega
          case d5 => exact hz2'
          intro gl cl w3 hown hgrow _ _
          have HON : Hid (w3.ownsRow w.heap.size 73 2 (.slice (some ⟨gl, 0, none⟩) (l.length + l2.length) cl) (l ++ l2).length (flatW n (l ++ l2))) := by
            rw [flatW_app, List.length_append]
            exact hown
          have HB3 : Hid (type_of% (D2.grown hgrow hz2' (fun j hj => (how.lt j hj).1))) := D2.grown hgrow hz2' (fun j hj => (how.lt j hj).1)
          clear hown hgrow how D2 hnew hone hfl
          go_wp2_with fail
          go_roundw
          case rel => exact ⟨k + 1, l ++ l2, by omega, by go_num, HM.out.1, HN2.out, HW2.out, HON.out, HB3.out⟩
          case measure => simp [intOf]; omega
    · have hke : ts.take k = ts := List.take_of_length_le (by omega)
      have hla : l.map (·.t) = atoms ts := by rw [HLT.out, hke]
      have hn3 : ∀ q ∈ ts, q.kind ≠ 3 := fun q hq => HN3.out q (by rw [hke]; exact hq)
      have hl0 : 0 < l.length := by
        obtain ⟨y, hy⟩ := atoms_some HR.out H0.out
        rw [← hla] at hy
        obtain ⟨e, he, _⟩ := List.mem_map.1 hy
        exact List.length_pos_of_mem he
      obtain ⟨g, cg, hg⟩ := own_some HO.out hl0
      simp only [Value.slice.injEq, true_and] at hg
      obtain ⟨rfl, rfl⟩ := hg
      have HLA : Hid (type_of% hla) := hla
      have HNA : Hid (type_of% hn3) := hn3
      have HS : Hid (type_of% (slSortW w.heap.size g cv n l wo HO.out (by omega))) := slSortW w.heap.size g cv n l wo HO.out (by omega)
      clear hla hn3 HLT HN3 HO HAL HEL hke
      go_wp2_with fail
      refine HS.out.mono ?_
      rintro e w4 ⟨rfl, E, hp, hs, ho4, hb4⟩
      have hEl : E.length = l.length := hp.length_eq
      have hbe4 : Below w.heap.size w w4 := hbe.trans hb4
      have HC0 := slCompact w.heap.size g cv n E w4 ho4 (by omega) (by omega) hs
      rw [hEl] at HC0
      have HC : Hid (type_of% HC0) := HC0
      have HEL : Hid (type_of% hEl) := hEl
      have HP : Hid (type_of% hp) := hp
      clear HS HC0 hp hs ho4 hb4 hEl
      go_wp2_with fail
      refine HC.out.mono ?_
      rintro e w5 ⟨L, rfl, hL0, hkeep, ho5, hb5⟩
      have hbe5 : Below w.heap.size w w5 := hbe4.trans hb5
      have HU : Hid (UnionS n ts (L.map (·.t))) := keep_union HR.out HLA.out HP.out (by rw [HEL.out]; exact hkeep)
      have HWL : Hid (HoldW w B lo hi n L) := fun e he => HW.out e (HP.out.mem_iff.1 (hkeep.sub e he))
      have hLb : L.length ≤ 274877906944 := by have := hkeep.few; omega
      have HO5 : Hid (type_of% ho5) := ho5
      have hg5 : g < w5.heap.size := (ho5.lt g rfl).2
      have HCL : Hid (∀ j (h : j < L.length), w5.cell? ⟨g, j * 2, none⟩ = some (.string (Ty.text n L[j].t)) ∧ w5.cell? ⟨g, j * 2 + 1, none⟩ = some (.iface L[j].T L[j].x)) := fun j hj => by
        obtain ⟨q1, q2⟩ := flatW_get n L j hj
        exact ⟨by rw [ho5.cellAt (j * 2) (by omega)]; exact q1, by rw [ho5.cellAt (j * 2 + 1) (by omega)]; exact q2⟩
      clear HC hkeep ho5 hb5 hbe4 HP HEL HW HLA
      by_cases h1 : L.length = 1
      · obtain ⟨q1, q2⟩ := HCL.out 0 (by omega)
        rw [Nat.zero_mul] at q1 q2
        have hi1 : ((L.length : Int) == 1) = true := by rw [beq_iff_eq]; omega
        have hi2 : (0 : Int) < (L.length : Int) := by omega
        have HF : Hid (FormIn w5 B (n + 1) lo w5.heap.size (.iface (L[0]'(by omega)).T (L[0]'(by omega)).x) (L[0]'(by omega)).t ∧ UForm n ts (L[0]'(by omega)).t) := by
          refine ⟨(HWL.out _ (List.getElem_mem (by omega))).up.step hbe5 hBw hhi, .inr ⟨HNA.out, _, HU.out, .inl (one_map L h1)⟩⟩
        clear h1 HU HWL HCL HO5 HNA HR HBK H0
        generalize (L[0]'(by omega)).T = T0 at *
        generalize (L[0]'(by omega)).x = x0 at *
        generalize (L[0]'(by omega)).t = t0 at *
        go_wp2_with fail
        go_ret
        exact ⟨_, _, t0, rfl, HF.out.1, HF.out.2, hbe5⟩
      · have hi1 : ((L.length : Int) == 1) = false := by rw [beq_eq_false_iff_ne]; omega
        have HLL : Hid (1 < L.length) := by show 1 < _; omega
        have hB0 : Box1 w5 (w5.alloc (.cells #[.slice none 0 0] 68)) 0 (.slice none 0 0) [] := ⟨heap_alloc_new w5 _, World.ownsRow_nil _ _ _ _, (Below.refl _ _).alloc (Nat.le_refl _) _⟩
        clear h1
        go_wp2_with fail
        go_loopw [52] (fun i wr => ∃ (k : Nat) (v : Value), k ≤ L.length ∧ i = .int .i64 k ∧ Box1 w5 wr k v ((L.take k).map fun e => .iface e.T e.x)) (fun i _ => L.length - (intOf i).toNat)
        case atStart => exact ⟨0, _, Nat.zero_le _, rfl, hB0⟩
        case round =>
          obtain ⟨k2, v2, hk2, rfl, hB⟩ := hrel
          clear hB0
          obtain ⟨u0, uf⟩ := block1U hB.box
          have hlt5 : w5.heap.size < wr.heap.size := (Array.getElem?_eq_some_iff.1 hB.box).1
          obtain ⟨a2, c2, hv2⟩ := slice_ownW hB.own
          subst hv2
          have HB : Hid (type_of% hB) := hB
          have hbwr : Below w.heap.size w wr := hbe5.trans (hB.old.mono hbe5.size)
          by_cases hkl2 : k2 < L.length
          · obtain ⟨q1, q2⟩ := HCL.out k2 hkl2
            have C1 := (hB.old.cell (p := ⟨g, k2 * 2, none⟩) hg5).trans q1
            have C2 := (hB.old.cell (p := ⟨g, k2 * 2 + 1, none⟩) hg5).trans q2
            have ho2 := hB.own
            have hk20 : (0 : Int) ≤ (k2 : Int) := by omega
            have hk21 : (k2 : Int) < (L.length : Int) := by omega
            have HNX : Hid (((L.take k2).map fun e : WE => Value.iface e.T e.x) ++ [.iface L[k2].T L[k2].x] = (L.take (k2 + 1)).map fun e => .iface e.T e.x) := by show _ = _; rw [List.take_succ_eq_append_getElem hkl2, List.map_append]; rfl
            clear q1 q2 hB
            generalize L[k2].T = T2 at *
            generalize L[k2].x = x2 at *
            generalize Ty.text n L[k2].t = tx2 at *
            have how := (ho2.alloc (.cells #[.string tx2, .iface T2 x2] 73)).alloc (.cells #[.iface T2 x2] 48)
            have hnT : (Value.slice a2 k2 c2).ownBlock ≠ some w5.heap.size := fun e => by have := (ho2.lt _ e).1; omega
            clear ho2
            go_wp2_with (at_builtin; refine wpList_append_lies _ rfl _ _ 44 rfl (w5.heap.size + 1) 48 j0 _ 1 16 Tryz.underlying44 hj hy0 hy1 hy2 rfl (by decide) _ _ _ rfl how ⟨wr.heap.size + 1, 0, none⟩ 1 1 [.iface T2 x2] rfl rfl ?d1 ?d2 (by decide) ?d3 ?d4 ?d5 (wr.heap.size + 1 + 1) (by simp) ?_)
            case d1 => exact World.news_of_block (cs := #[.iface T2 x2]) (t := 48) (fr := (0, 0)) (by simpa using heap_alloc_new (wr.alloc (.cells #[.string tx2, .iface T2 x2] 73)) (.cells #[.iface T2 x2] 48))
            case d2 => simp [Value.oneCell']
            case d3 => unfold maxLen; omega
            case d4 => omega
            case d5 => simp; omega
            intro gl cl w6 hown hgrow _ _
            have hown1 : w6.ownsRow (w5.heap.size + 1) 48 1 (.slice (some ⟨gl, 0, none⟩) (k2 + 1) cl) (k2 + 1) ((L.take (k2 + 1)).map fun e => .iface e.T e.x) := by rw [← HNX.out, List.map_take]; exact hown
            have HB2 : Hid (type_of% (HB.out.step hgrow hown1)) := HB.out.step hgrow hown1
            have hT6 := hgrow.block w5.heap.size (by simp; omega) (fun e => hnT e.symm)
            have z0 := cell_same (cellOld_anyU (cellOld_anyU u0 hlt5) (by simp; omega)) hT6
            have zf := (frozen_sameU 0 hT6).trans ((frozenOld 0 (by simp; omega)).trans ((frozenOld 0 hlt5).trans uf))
            clear hown hown1 hgrow how hT6 HB u0 uf
            go_wp2_with fail
            go_roundw
            case rel => exact ⟨k2 + 1, _, by omega, by go_num, HB2.out⟩
            case measure => simp [intOf]; omega
          · have hke2 : k2 = L.length := by omega
            subst hke2
            have htl : L.take L.length = L := List.take_length
            have hB2 := HB.out
            rw [htl] at hB2
            obtain ⟨a9, c9, e9, hf9⟩ := hB2.form HWL.out hbwr hBw hhi (by have := hbe5.size; omega) (by omega)
            simp only [Value.slice.injEq, true_and] at e9
            obtain ⟨rfl, rfl⟩ := e9
            have HF : Hid (type_of% hf9) := hf9
            have HUF : Hid (UForm n ts (.mk 7 ⟨#[]⟩ [] (L.map (·.t)))) := .inr ⟨HNA.out, _, HU.out, .inr ⟨by have := HLL.out; simpa using this, rfl⟩⟩
            clear hB hB2 HB hf9 htl HCL HWL HU HO5 HNA HR HBK H0
            go_wp2_with fail
            go_ret
            exact ⟨_, _, _, rfl, HF.out, HUF.out, hbwr⟩

end Go.Proofs.YtjihkebafoajdaaGreatDoor
