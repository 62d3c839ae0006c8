/-
 The walks of impl.namesOf, impl.typesOf and impl.reachedFrom.
-/
import Derived.Test.YtbojmbeopnlmiaaGreatDoorRcI
namespace Go.Proofs.YtbojmbeopnlmiaaGreatDoor
open Go.RowKit
theorem TyIn.deeper {w : World} {n lo hi : Nat} {cs : List Value} {t : Ty} (h : TyIn w n lo hi cs t) : TyIn w (n + 1) lo hi cs t := by
 induction n generalizing lo hi cs t with
 | zero => exact h.elim
 | succ n ih =>
  obtain ⟨vn, vk, mid, h1, h2, h3, h4, h5, hmid, b, cap, e, g1, g2, g0, L, g3, g4, g5⟩ := h
  exact ⟨vn, vk, mid, h1, h2, h3, h4, h5, hmid, b, cap, e, g1, g2, g0, L, g3, g4, fun j hj => by
   obtain ⟨cs', k1, k2⟩ := g5 j hj
   exact ⟨cs', ih k1, k2⟩⟩
theorem EnvIn.deeper {w : World} {n lo hi : Nat} {v : Value} {es : List (ByteArray × Ty)} (h : EnvIn w n lo hi v es) : EnvIn w (n + 1) lo hi v es := by
 obtain ⟨b, cap, e, h1, h2, h3, L, h4, h5, h6⟩ := h
 exact ⟨b, cap, e, h1, h2, h3, L, h4, h5, fun j hj => by
  obtain ⟨k0, cs, k1, k2, k3⟩ := h6 j hj
  exact ⟨k0, cs, TyIn.deeper k1, k2, k3⟩⟩
theorem EnvIn.belowS {w w' : World} {n lo hi : Nat} {v : Value} {es : List (ByteArray × Ty)} (h : EnvIn w n lo hi v es) (hb : Below w.heap.size w w') : EnvIn w' n lo hi v es := by
 obtain ⟨b, cap, e, h1, h2, ⟨cur, T, h3⟩, L, h4, h5, h6⟩ := h
 have hbl : b < w.heap.size := (Array.getElem?_eq_some_iff.1 h3).1
 refine ⟨b, cap, e, h1, h2, ⟨cur, T, (hb.block b hbl).trans h3⟩, L, h4, h5, fun j hj => ?_⟩
 obtain ⟨k0, cs, k1, k2, k3⟩ := h6 j hj
 exact ⟨k0, cs, TyIn.below k1 hb, (hb.cell (p := ⟨b, j * 5, none⟩) hbl).trans k2, fun c u hu => (hb.cell (p := ⟨b, j * 5 + 1 + c, none⟩) hbl).trans (k3 c u hu)⟩
def fnOf (es : List (ByteArray × Ty)) : Ty := .mk 6 ⟨#[]⟩ [] (es.map (·.2))
set_option maxHeartbeats 1600000 in
set_option maxRecDepth 100000 in
theorem implTypesOf (n lo hi : Nat) (v : Value) (es : List (ByteArray × Ty)) (w : World) (hrow : EnvIn w n lo hi v es) (hhi : hi ≤ w.heap.size) (hlen : es.length ≤ 1048576) :
  Calls Tryz.prog 54 #[v] w fun e w' => ∃ (a : Option Addr) (c : Nat), e = .returned (.slice a es.length c) ∧ TyUp w' (n + 1) lo w'.heap.size [.int .i64 6, .string ⟨#[]⟩, .slice none 0 0, .slice a es.length c] (fnOf es) ∧ Below w.heap.size w w' := by
 obtain ⟨i0, hi0, hz0, hz1, hz2⟩ := info_parts Tryz.infoType
 obtain ⟨b, capv, rfl, hlb, hbh, hbc, L, hL1, hL2, hL3⟩ := hrow
 have each : ∀ j, j < es.length → ∃ q : Ent, ∃ h : j < es.length, q.n = n ∧ q.lo = L j ∧ q.hi = L (j + 1) ∧ q.t = es[j].2 ∧ q.fits w ∧ w.cell? ⟨b, j * 5, none⟩ = some (.string es[j].1) ∧ ∀ c u, q.cs[c]? = some u → w.cell? ⟨b, j * 5 + 1 + c, none⟩ = some u := fun j hj => by
  obtain ⟨_, cs, k1, k2, k3⟩ := hL3 j hj
  exact ⟨⟨n, L j, L (j + 1), cs, es[j].2⟩, hj, rfl, rfl, rfl, rfl, k1, k2, k3⟩
 haveI : Inhabited Ent := ⟨⟨0, 0, 0, [], .mk 0 ByteArray.empty [] []⟩⟩
 obtain ⟨q, hq⟩ := Go.Deep.choose_lt each
 have HEL : Hid (type_of% hq) := hq
 have HFIN : Hid (∀ (wx : World) (v' : Value), Below w.heap.size w wx → wx.ownsRow w.heap.size 30 4 v' ((List.range es.length).map q).length (flatE ((List.range es.length).map q)) → ∃ (a : Option Addr) (c : Nat), v' = .slice a es.length c ∧ TyUp wx (n + 1) lo wx.heap.size [.int .i64 6, .string ⟨#[]⟩, .slice none 0 0, .slice a es.length c] (fnOf es)) := fun wx v' hb hr => by
  have hln : ((List.range es.length).map q).length = es.length := by simp
  have hup : ∀ p ∈ (List.range es.length).map q, p.up wx := fun p hp => by
   obtain ⟨k, hk, rfl⟩ := List.mem_map.1 hp
   obtain ⟨_, _, _, _, _, hf, _⟩ := hq k (by simpa using hk)
   exact (TyIn.below hf hb).up
  obtain ⟨a, c, hv⟩ := slice_ownT hr
  rw [hln] at hv
  obtain ⟨B0, hB0, hB1⟩ : ∃ B0, hi ≤ B0 ∧ (0 < es.length → a = some ⟨B0, 0, none⟩ ∧ B0 < wx.heap.size ∧ (∃ cur e, wx.heap[B0]? = some (.cells cur e (0, 0))) ∧ ∀ j, j < es.length → ∀ c u, (q j).cs[c]? = some u → wx.cell? ⟨B0, j * 4 + c, none⟩ = some u) := by
   rcases Nat.eq_zero_or_pos es.length with h0 | h0
   ·exact ⟨hi, Nat.le_refl _, fun h => by omega⟩
   ·obtain ⟨g, cap, hg, _⟩ := row_cells hr hup 0 (by rw [hln]; exact h0)
    have hg2 := hg
    rw [hv, hln] at hg2
    simp only [Value.slice.injEq, true_and] at hg2
    have hob : v'.ownBlock = some g := by rw [hg]; rfl
    refine ⟨g, by have := (hr.lt g hob).1; omega, fun _ => ⟨hg2.1, (hr.lt g hob).2, ?_, fun j hj c u hu => ?_⟩⟩
    ·rcases hr.2 with ⟨e, _⟩ | ⟨g', cap', cur, e, _, hh, _⟩
     ·rw [e] at hob; simp [Value.ownBlock] at hob
     ·rw [e] at hob
      simp only [Value.ownBlock, Option.some.injEq] at hob
      subst hob
      exact ⟨cur, _, hh⟩
    ·obtain ⟨g', cap', hg', hc⟩ := row_cells hr hup j (by rw [hln]; exact hj)
     rw [hg] at hg'
     simp only [Value.slice.injEq, Option.some.injEq, Addr.mk.injEq, true_and, and_true] at hg'
     obtain ⟨rfl, _⟩ := hg'
     exact hc c u (by simpa using hu)
  have hkl : (fnOf es).kids.length = es.length := by simp [fnOf]
  refine ⟨a, c, hv, n, .slice none 0 0, a, B0, c, rfl, by rw [hkl]; rfl, ⟨none, 0, 0, rfl⟩, by rw [hkl]; unfold maxLen; omega, fun h0 => ?_, L, fun j hj => ?_, fun i j hij hj => hL2 i j hij (by rw [hkl] at hj; exact hj), fun j hj => ?_, fun j hj => ?_⟩
  ·rw [hkl] at h0
   obtain ⟨q1, q2, q3, _⟩ := hB1 h0
   exact ⟨q1, by omega, q2, q3⟩
  ·rw [hkl] at hj
   have := hL1 j hj
   have := hb.size
   exact ⟨by omega, by omega⟩
  ·rw [hkl] at hj
   have := hL1 (j + 1) (by omega)
   exact .inr (by omega)
  ·rw [hkl] at hj
   obtain ⟨_, k1, k2, k3, k4, k5, _⟩ := hq j hj
   have e9 : (fnOf es).kids[j]'(by rw [hkl]; exact hj) = es[j].2 := by simp [fnOf]
   unfold Ent.fits at k5
   rw [k1, k2, k3, k4] at k5
   rw [e9]
   exact ⟨(q j).cs, TyIn.below k5 hb, (hB1 (by omega)).2.2.2 j hj⟩
 clear hL1 hL2 hL3 hq each
 go_enter Tryz.func54, Tryz.ntmps54
 go_wp2_with fail
 go_loopw [3, 8] (fun v i wr => ∃ (k : Nat) (acc : List Ent), k ≤ es.length ∧ i = .int .i64 k ∧ acc.length = k ∧ acc = (List.range k).map q ∧ wr.ownsRow w.heap.size 30 4 v acc.length (flatE acc) ∧ Below w.heap.size w wr) (fun _ i _ => es.length - (intOf i).toNat)
 case atStart => exact ⟨0, [], Nat.zero_le _, rfl, rfl, rfl, World.ownsRow_nil _ _ _ _, Below.refl _ _⟩
 case round =>
  obtain ⟨k, acc, hk, rfl, hal, hacc, how, hbe⟩ := hrel
  have HZ : Hid (type_of% hacc) := hacc
  have HZL : Hid (type_of% hal) := hal
  have hzk : acc.length ≤ k := by omega
  have hzw : w.heap.size ≤ wr.heap.size := hbe.size
  clear hacc hal
  obtain ⟨az, capz, hv⟩ := slice_ownT how
  subst hv
  by_cases hlt : k < es.length
  ·obtain ⟨_, _, _, _, ht, hf, q0, q1⟩ := HEL.out k hlt
   obtain ⟨an, ln, cn, ak, lk, ck, hcs⟩ := TyIn.shape hf
   have hbl : b < w.heap.size := by omega
   have c0 := (hbe.cell (p := ⟨b, k * 5, none⟩) hbl).trans q0
   rw [hcs] at q1
   have c1 := (hbe.cell (p := ⟨b, k * 5 + 1, none⟩) hbl).trans (q1 0 _ rfl)
   have c2 := (hbe.cell (p := ⟨b, k * 5 + 2, none⟩) hbl).trans (q1 1 _ rfl)
   have c3 := (hbe.cell (p := ⟨b, k * 5 + 3, none⟩) hbl).trans (q1 2 _ rfl)
   have c4 := (hbe.cell (p := ⟨b, k * 5 + 4, none⟩) hbl).trans (q1 3 _ rfl)
   have HCS : Hid ((q k).cs = [.int .i64 (q k).t.kind, .string (q k).t.name, .slice an ln cn, .slice ak lk ck]) := hcs
   have HZ2 : Hid (acc ++ [q k] = (List.range (k + 1)).map q) := by
    show _ = _
    rw [List.range_succ, List.map_append, HZ.out]; rfl
   have hk0i : (0 : Int) ≤ (k : Int) := by omega
   have hk1i : (k : Int) < (es.length : Int) := by omega
   clear q0 q1 HEL HZ ht hf hcs HFIN
   generalize es[k].1 = x at *
   obtain ⟨yk, hyk⟩ : ∃ yk, yk = (q k).t.kind := ⟨_, rfl⟩
   obtain ⟨yn, hyn⟩ : ∃ yn, yn = (q k).t.name := ⟨_, rfl⟩
   rw [← hyk, ← hyn] at HCS
   rw [← hyk] at c1
   rw [← hyn] at c2
   clear hyk hyn
   have hB1 : Below wr.heap.size wr (wr.alloc (.cells #[.string x, .int .i64 yk, .string yn, .slice an ln cn, .slice ak lk ck] 75)) := (Below.refl _ _).alloc (Nat.le_refl _) _
   have how3 := kept_belowT how hB1
   have hw3 := hbe.trans (hB1.mono hzw)
   go_wp2_with (at_builtin; refine wpList_append_own _ rfl _ _ 28 rfl w.heap.size 30 i0 (.agg #[.int .i64 0, .string ⟨#[]⟩, .slice none 0 0, .slice none 0 0]) 4 72 Tryz.underlying28 hi0 hz0 hz1 hz2 rfl (by decide) _ _ _ rfl (how3.alloc _) ⟨wr.heap.size + 1, 0, none⟩ 1 1 [.int .i64 yk, .string yn, .slice an ln cn, .slice ak lk ck] rfl rfl ?c1 ?c2 ?c3 ?c4 ?c5 ?_)
   case c1 =>
    have := cell_four_newT (wr.alloc (.cells #[.string x, .int .i64 yk, .string yn, .slice an ln cn, .slice ak lk ck] 75)) (.int .i64 yk) (.string yn) (.slice an ln cn) (.slice ak lk ck) 30
    simpa using this
   case c2 => intro u hu; simp at hu; rcases hu with rfl | rfl | rfl | rfl <;> rfl
   case c3 => unfold maxLen; omega
   case c4 => omega
   case c5 => simp; omega
   intro v' w4 hown' hgrow _
   rw [← HCS.out] at hown'
   obtain ⟨R1, R2, _⟩ := step_ent (by simp; omega) how3 hw3 hown' hgrow
   have HZL2 : Hid ((acc ++ [q k]).length = k + 1) := by show _ = _; rw [List.length_append, List.length_singleton, HZL.out]
   clear hown' hgrow how3 hw3 how
   go_wp2_with fail
   go_roundw
   case rel => exact ⟨k + 1, acc ++ [q k], by omega, by go_num, HZL2.out, HZ2.out, R1, R2⟩
   case measure => simp [intOf]; omega
  ·have hke : k = es.length := by omega
   have HR : Hid (∃ (a : Option Addr) (c : Nat), Value.slice az acc.length capz = .slice a es.length c ∧ TyUp wr (n + 1) lo wr.heap.size [.int .i64 6, .string ⟨#[]⟩, .slice none 0 0, .slice a es.length c] (fnOf es)) := by
    subst hke
    rw [HZ.out] at how ⊢
    exact HFIN.out wr _ hbe how
   clear how HEL HFIN HZ
   go_wp2_with fail
   go_ret
   obtain ⟨a, c, h1, h2⟩ := HR.out
   exact ⟨a, c, by rw [h1]; rfl, h2, hbe⟩
set_option maxHeartbeats 1600000 in
set_option maxRecDepth 100000 in
theorem implReachedFrom (n loE hiE lo hi : Nat) (vE v : Value) (es xs : List (ByteArray × Ty)) (w : World) (hE : EnvIn w n loE hiE vE es) (hhE : hiE ≤ w.heap.size) (hX : EnvIn w n lo hi v xs) (hhi : hi ≤ w.heap.size) (hbk : envBulk (n + 1) es + Ty.bulk (n + 1) (fnOf xs) ≤ 1048576) :
  Calls Tryz.prog 84 #[vE, v] w fun e w' => ∃ ao cap r, e = .returned (.slice ao r.length cap) ∧ w'.ownsRow w.heap.size 9 1 (.slice ao r.length cap) r.length (strV r) ∧ r.length ≤ 1048577 ∧ Asc r ∧ (∀ x, x ∈ r ↔ Rch (n + 1) es (fnOf xs) x) ∧ Below w.heap.size w w' := by
 have hxl : xs.length ≤ 1048576 := by
  have : xs.length ≤ Ty.bulk (n + 1) (fnOf xs) := by rw [Ty.bulk]; simp [fnOf]; omega
  omega
 have HT : Hid (type_of% (implTypesOf n lo hi v xs w hX hhi hxl)) := implTypesOf n lo hi v xs w hX hhi hxl
 have HRC : Hid (∀ (wx : World) (cs : List Value), Below w.heap.size w wx → TyUp wx (n + 1) lo wx.heap.size cs (fnOf xs) → Calls Tryz.prog 108 #[vE, .agg cs.toArray] wx fun e w' => ∃ ao cap r, e = .returned (.slice ao r.length cap) ∧ w'.ownsRow wx.heap.size 9 1 (.slice ao r.length cap) r.length (strV r) ∧ r.length ≤ 1048577 ∧ Asc r ∧ (∀ x, x ∈ r ↔ Rch (n + 1) es (fnOf xs) x) ∧ Below wx.heap.size wx w') := fun wx cs hx ht => implReach (n + 1) lo wx.heap.size loE hiE vE es cs (fnOf xs) wx (EnvIn.deeper (EnvIn.belowS hE hx)) (Nat.le_trans hhE hx.size) ht hbk
 obtain ⟨bE, capE, rfl⟩ : ∃ b cap, vE = .slice (some ⟨b, 0, none⟩) es.length cap := by
  obtain ⟨b, cap, e, _⟩ := hE
  exact ⟨b, cap, e⟩
 obtain ⟨bX, capX, rfl⟩ : ∃ b cap, v = .slice (some ⟨b, 0, none⟩) xs.length cap := by
  obtain ⟨b, cap, e, _⟩ := hX
  exact ⟨b, cap, e⟩
 clear hE hX hbk
 go_enter Tryz.func84, Tryz.ntmps84
 go_wp2_with fail
 refine HT.out.mono ?_
 rintro e w2 ⟨a, c, rfl, hup, hb2⟩
 have HR2 : Hid (type_of% (HRC.out w2 _ hb2 hup)) := HRC.out w2 _ hb2 hup
 clear HT HRC hup
 go_wp2_with fail
 refine HR2.out.mono ?_
 rintro e w3 ⟨ao, cap, r, rfl, ho, hrl, hasc, hin, hb3⟩
 have HO : Hid (type_of% ho) := ho
 clear HR2 ho
 go_wp2_with fail
 go_ret
 exact ⟨ao, cap, r, rfl, ⟨HO.out.1, HO.out.2.imp id fun ⟨g, c, cur, e1, e2, e3⟩ => ⟨g, c, cur, e1, Nat.le_trans hb2.size e2, e3⟩⟩, hrl, hasc, hin, hb2.trans (hb3.mono hb2.size)⟩
theorem TyAt.deeper {w : World} {n : Nat} {cs : List Value} {t : Ty} (h : TyAt w n cs t) : TyAt w (n + 1) cs t := by
 induction n generalizing cs t with
 | zero => exact h.elim
 | succ n ih =>
  obtain ⟨vn, vk, h1, h2, h3, h4, h5, hr⟩ := h
  refine ⟨vn, vk, h1, h2, h3, h4, h5, ?_⟩
  rcases hr with hr | ⟨b, off, cap, e, hc⟩
  ·exact .inl hr
  ·exact .inr ⟨b, off, cap, e, fun j hj => by
    obtain ⟨cs, k1, k2⟩ := hc j hj
    exact ⟨cs, ih k1, k2⟩⟩
theorem EnvAt.deeper {w : World} {n : Nat} {v : Value} {es : List (ByteArray × Ty)} (h : EnvAt w n v es) : EnvAt w (n + 1) v es := by
 rcases h with h | ⟨b, off, cap, e, hc⟩
 ·exact .inl h
 ·exact .inr ⟨b, off, cap, e, fun j hj => by
   obtain ⟨cs, ⟨cs', k1, k2, k3⟩, k4⟩ := hc j hj
   exact ⟨cs, ⟨cs', k1, k2, k3.deeper⟩, k4⟩⟩
theorem EnvAt.deep {w : World} {n m : Nat} {v : Value} {es : List (ByteArray × Ty)} (h : EnvAt w n v es) (hm : n ≤ m) : EnvAt w m v es := by
 obtain ⟨k, rfl⟩ : ∃ k, m = n + k := ⟨m - n, by omega⟩
 clear hm
 induction k with
 | zero => exact h
 | succ k ih => exact ih.deeper
theorem nodes_ends {n : Nat} {t : Ty} (h : Ty.ends n t) : Ty.nodes (n + 1) t = Ty.nodes n t := by
 induction n generalizing t with
 | zero => exact h.elim
 | succ n ih =>
  rw [Ty.nodes.eq_2 t (n + 1), Ty.nodes.eq_2 t n]
  congr 1
  have : ∀ l : List Ty, (∀ k ∈ l, Ty.ends n k) → l.flatMap (Ty.nodes (n + 1)) = l.flatMap (Ty.nodes n) := fun l => by
   induction l with
   | nil => intro _; rfl
   | cons a r ihl =>
    intro hl
    rw [List.flatMap_cons, List.flatMap_cons, ih (hl a (by simp)), ihl fun k hk => hl k (by simp [hk])]
  exact this _ h
theorem bulk_ends {n : Nat} {t : Ty} (h : Ty.ends n t) : Ty.bulk (n + 1) t = Ty.bulk n t := by
 induction n generalizing t with
 | zero => exact h.elim
 | succ n ih =>
  rw [Ty.bulk.eq_2 t (n + 1), Ty.bulk.eq_2 t n]
  have : ∀ l : List Ty, (∀ k ∈ l, Ty.ends n k) → l.map (Ty.bulk (n + 1)) = l.map (Ty.bulk n) := fun l => by
   induction l with
   | nil => intro _; rfl
   | cons a r ihl =>
    intro hl
    rw [List.map_cons, List.map_cons, ih (hl a (by simp)), ihl fun k hk => hl k (by simp [hk])]
  rw [this _ h]
def EnvEnds (n : Nat) (es : List (ByteArray × Ty)) : Prop := ∀ e ∈ es, Ty.ends n e.2
theorem EnvAt.ends {w : World} {n : Nat} {v : Value} {es : List (ByteArray × Ty)} (h : EnvAt w n v es) : EnvEnds n es := fun e he => by
 rcases h with ⟨e0, _⟩ | ⟨b, off, cap, _, hc⟩
 ·rw [e0] at he; simp at he
 ·obtain ⟨j, hj, rfl⟩ := List.getElem_of_mem he
  obtain ⟨cs, ⟨cs', _, _, h3⟩, _⟩ := hc j hj
  exact h3.ends
theorem envBulk_ends {n : Nat} {es : List (ByteArray × Ty)} (h : EnvEnds n es) : envBulk (n + 1) es = envBulk n es := by
 unfold envBulk
 have : ∀ l : List (ByteArray × Ty), EnvEnds n l → l.map (nmBulk (n + 1)) = l.map (nmBulk n) := fun l => by
  induction l with
  | nil => intro _; rfl
  | cons a r ihl =>
   intro hl
   rw [List.map_cons, List.map_cons, ihl fun k hk => hl k (by simp [hk])]
   congr 1
   unfold nmBulk
   rw [bulk_ends (hl a (by simp))]
 rw [this _ h]
theorem fnOf_bulk (n : Nat) (xs : List (ByteArray × Ty)) : Ty.bulk (n + 1) (fnOf xs) ≤ envBulk n xs := by
 rw [Ty.bulk.eq_2]
 unfold fnOf envBulk
 have : ∀ l : List (ByteArray × Ty), ((l.map (·.2)).map (Ty.bulk n)).sum ≤ (l.map (nmBulk n)).sum := fun l => by
  induction l with
  | nil => simp
  | cons a r ih =>
   simp only [List.map_cons, List.sum_cons]
   have : Ty.bulk n a.2 ≤ nmBulk n a := by unfold nmBulk; omega
   omega
 have := this xs
 simp only [List.length_map, List.length_nil, Ty.textsBulk]
 have e0 : (ByteArray.mk #[]).size = 0 := rfl
 omega
theorem names_fnOf {n : Nat} {xs : List (ByteArray × Ty)} {y : ByteArray} : namesIn (n + 1) (fnOf xs) y ↔ ∃ e ∈ xs, namesIn n e.2 y := by
 unfold namesIn
 rw [Ty.nodes.eq_2]
 constructor
 ·rintro ⟨u, hu, h4, hn⟩
  rcases List.mem_cons.1 hu with rfl | hu
  ·simp [fnOf] at h4
  ·obtain ⟨k, hk, hu⟩ := List.mem_flatMap.1 hu
   obtain ⟨e, he, rfl⟩ := List.mem_map.1 hk
   exact ⟨e, he, u, hu, h4, hn⟩
 ·rintro ⟨e, he, u, hu, h4, hn⟩
  exact ⟨u, List.mem_cons_of_mem _ (List.mem_flatMap.2 ⟨e.2, List.mem_map.2 ⟨e, he, rfl⟩, hu⟩), h4, hn⟩
theorem names_more {n : Nat} {t : Ty} {y : ByteArray} (h : Ty.ends n t) : namesIn (n + 1) t y ↔ namesIn n t y := by unfold namesIn; rw [nodes_ends h]
theorem reach_fnOf {n : Nat} {ts xs : List (ByteArray × Ty)} {x : ByteArray} (h : EnvEnds n xs) : Rch (n + 1) ts (fnOf xs) x ↔ ∃ e ∈ xs, Rch (n + 1) ts e.2 x := by
 have : ∀ i x, Lv (n + 1) ts (fnOf xs) i x ↔ ∃ e ∈ xs, Lv (n + 1) ts e.2 i x := fun i => by
  induction i with
  | zero =>
   intro x
   show namesIn (n + 1) (fnOf xs) x ↔ ∃ e ∈ xs, namesIn (n + 1) e.2 x
   rw [names_fnOf]
   exact ⟨fun ⟨e, he, k⟩ => ⟨e, he, (names_more (h e he)).2 k⟩, fun ⟨e, he, k⟩ => ⟨e, he, (names_more (h e he)).1 k⟩⟩
  | succ i ih =>
   intro x
   show (Lv (n + 1) ts (fnOf xs) i x ∨ ∃ y, Lv (n + 1) ts (fnOf xs) i y ∧ Nx (n + 1) ts y x) ↔ ∃ e ∈ xs, (Lv (n + 1) ts e.2 i x ∨ ∃ y, Lv (n + 1) ts e.2 i y ∧ Nx (n + 1) ts y x)
   constructor
   ·rintro (k | ⟨y, k, hy⟩)
    ·obtain ⟨e, he, k⟩ := (ih x).1 k
     exact ⟨e, he, .inl k⟩
    ·obtain ⟨e, he, k⟩ := (ih y).1 k
     exact ⟨e, he, .inr ⟨y, k, hy⟩⟩
   ·rintro ⟨e, he, k | ⟨y, k, hy⟩⟩
    ·exact .inl ((ih x).2 ⟨e, he, k⟩)
    ·exact .inr ⟨y, (ih y).2 ⟨e, he, k⟩, hy⟩
 constructor
 ·rintro ⟨i, k⟩
  obtain ⟨e, he, k⟩ := (this i x).1 k
  exact ⟨e, he, i, k⟩
 ·rintro ⟨e, he, i, k⟩
  exact ⟨i, (this i x).2 ⟨e, he, k⟩⟩
end Go.Proofs.YtbojmbeopnlmiaaGreatDoor
