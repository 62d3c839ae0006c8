/-
  The walk of impl.TypeNames: the names in a type, ascending, each once, in new memory.
-/
import Derived.Test.YtfmfihgmpefknacNamesU
import Derived.Test.YtfmfihgmpefknacCpN
import Derived.Deep.RegionHeld3
namespace Go.Proofs.Ytfmfihgmpefknac
open Go.RowKit Go.Sort Go.Shelf

/-- the names among these, as they come -/
def namesOf (l : List Ent) : List ByteArray := (l.filter fun p => decide (p.t.kind = 4)).map (·.t.name)
theorem namesOf_more (l : List Ent) (k : Nat) (h : k < l.length) : namesOf (l.take (k + 1)) = namesOf (l.take k) ++ (if l[k].t.kind = 4 then [l[k].t.name] else []) := by
  unfold namesOf
  rw [List.take_succ_eq_append_getElem h, List.filter_append, List.map_append]
  by_cases c : l[k].t.kind = 4 <;> simp [c]
theorem namesOf_len (l : List Ent) : (namesOf l).length ≤ l.length := by
  unfold namesOf
  rw [List.length_map]
  exact List.length_filter_le _ _
theorem namesOf_mem {N : List Ty} {l : List Ent} (h : N.Perm (l.map (·.t))) (x : ByteArray) : x ∈ namesOf l ↔ ∃ u ∈ N, u.kind = 4 ∧ u.name = x := by
  unfold namesOf
  rw [List.mem_map]
  constructor
  · rintro ⟨p, hp, e⟩
    obtain ⟨h1, h2⟩ := List.mem_filter.1 hp
    exact ⟨p.t, h.mem_iff.2 (List.mem_map.2 ⟨p, h1, rfl⟩), by simpa using h2, e⟩
  · rintro ⟨u, hu, h4, e⟩
    obtain ⟨p, hp, rfl⟩ := List.mem_map.1 (h.mem_iff.1 hu)
    exact ⟨p, List.mem_filter.2 ⟨hp, by simp [h4]⟩, e⟩

theorem name_small (n : Nat) : ∀ (t u : Ty), u ∈ Ty.nodes n t → u.name.size ≤ Ty.bulk n t := by
  induction n with
  | zero => intro t u hu; simp [Ty.nodes] at hu
  | succ n ih =>
    intro t u hu
    rw [Ty.nodes] at hu
    rw [Ty.bulk]
    rcases List.mem_cons.1 hu with e | hu
    · rw [e]; omega
    · obtain ⟨q, hq, hu⟩ := List.mem_flatMap.1 hu
      obtain ⟨j, hj, rfl⟩ := List.getElem_of_mem hq
      have h1 := ih _ u hu
      have h2 := kid_bulk n t.kids j hj
      omega

theorem one_cellI {X : World} {G : Nat} {s : ByteArray} (h : X.cell? ⟨G, 0, none⟩ = some (.string s)) : ∀ j u, [Value.string s][j]? = some u → X.cell? ((⟨G, 0, none⟩ : Addr).add j) = some u := by
  intro j u hj
  match j, hj with
  | 0, hj => simp at hj; subst hj; simpa [Addr.add] using h
  | j + 1, hj => simp at hj

theorem sortS {B g cap : Nat} {zs : List ByteArray} {w : World} (h : w.ownsRow B 9 1 (.slice (some ⟨g, 0, none⟩) zs.length cap) zs.length (strV zs)) (hz : zs.length ≤ 1048577) :
    Calls Try.prog 30 #[.slice (some ⟨g, 0, none⟩) zs.length cap] w fun e w' => e = .returned (.tuple #[]) ∧ ∃ n os, w' = grow (putRow encStr (Sort.ahead w n) g 0 ((keysOf zs).mergeSort fun x y => decide (x ≤ y)).toArray) os := by
  rw [← keys_enc] at h
  obtain ⟨g', cap', e, _, hlt, _, _, hl, hH⟩ := Lib.holds_of_ownsRow h (by simp)
  simp only [Value.slice.injEq, Option.some.injEq, Addr.mk.injEq, true_and, and_true] at e
  obtain ⟨rfl, rfl⟩ := e
  have := Try.slices_Sort_string g 0 cap (keysOf zs) w hH hlt (by omega)
  rw [hl] at this
  exact this

theorem compactS {B g cap nn : Nat} {os : Array Obj} {zs : List ByteArray} {w : World} (h : w.ownsRow B 9 1 (.slice (some ⟨g, 0, none⟩) zs.length cap) zs.length (strV zs)) (hz : zs.length ≤ 1048577) :
    Calls Try.prog 31 #[.slice (some ⟨g, 0, none⟩) zs.length cap] (grow (putRow encStr (Sort.ahead w nn) g 0 ((keysOf zs).mergeSort fun x y => decide (x ≤ y)).toArray) os) fun e w' => e = .returned (.slice (some ⟨g, 0, none⟩) (uniq zs).length cap) ∧ ∃ q, w' = putRow encStr (Sort.ahead (grow (putRow encStr (Sort.ahead w nn) g 0 ((keysOf zs).mergeSort fun x y => decide (x ≤ y)).toArray) os) q) g 0 (Lib.compact ((keysOf zs).mergeSort fun x y => decide (x ≤ y)) ++ List.replicate (zs.length - (Lib.compact ((keysOf zs).mergeSort fun x y => decide (x ≤ y))).length) []).toArray := by
  have hu : (uniq zs).length = (Lib.compact ((keysOf zs).mergeSort fun x y => decide (x ≤ y))).length := by unfold uniq ofKeys; rw [List.length_map]
  rw [← keys_enc] at h
  obtain ⟨g', cap', e, _, hlt, hnc, _, hl, hH⟩ := Lib.holds_of_ownsRow h (by simp)
  simp only [Value.slice.injEq, Option.some.injEq, Addr.mk.injEq, true_and, and_true] at e
  obtain ⟨rfl, rfl⟩ := e
  have hl2 : ((keysOf zs).mergeSort fun x y => decide (x ≤ y)).length = zs.length := by rw [List.length_mergeSort]; exact hl
  have hH2 : Holds encStr (grow (putRow encStr (Sort.ahead w nn) g 0 ((keysOf zs).mergeSort fun x y => decide (x ≤ y)).toArray) os) g 0 ((keysOf zs).mergeSort fun x y => decide (x ≤ y)).toArray :=
    holds_grow encStr _ os g 0 _ (by simpa [putRow, mapBlock, Sort.ahead] using hlt) (holds_putRow encStr _ g 0 _ _ (holds_ahead encStr w nn g 0 _ hH) (by simp))
  have := Try.slices_Compact_string g 0 cap ((keysOf zs).mergeSort fun x y => decide (x ≤ y)) _ hH2 (by omega) (by omega)
  rw [hl2] at this
  rw [hu]
  exact this

set_option maxHeartbeats 800000 in
set_option maxRecDepth 100000 in
theorem implNamesIn (n lo hi : Nat) (cs : List Value) (t : Ty) (w : World) (h : TyUp w n lo hi cs t) (hbk : Ty.bulk n t ≤ 1048576) :
    Calls Try.prog 25 #[.agg cs.toArray] w fun e w' => ∃ ao cap r, e = .returned (.slice ao r.length cap) ∧ w'.ownsRow w.heap.size 9 1 (.slice ao r.length cap) r.length (strV r) ∧ r.length ≤ 1048577 ∧ Asc r ∧ (∀ x, x ∈ r ↔ namesIn n t x) ∧ Below w.heap.size w w' := by
  obtain ⟨x0, x1, x2, x3, rfl⟩ : ∃ x0 x1 x2 x3, cs = [x0, x1, x2, x3] := by
    obtain ⟨an, ln, cn, ak, lk, ck, e⟩ := h.shape
    exact ⟨_, _, _, _, e⟩
  have hN : (Ty.nodes n t).length ≤ 1048577 := by have := nodes_len n t; omega
  have HNI : Hid (∀ x, namesIn n t x ↔ ∃ u ∈ Ty.nodes n t, u.kind = 4 ∧ u.name = x) := fun x => Iff.rfl
  have HC : Hid (∀ wx : World, Below w.heap.size w wx → Calls Try.prog 20 #[.agg #[x0, x1, x2, x3]] wx fun e w' => ∃ (ao : Option Addr) (cap : Nat) (l : List Ent), e = .returned (.slice ao l.length cap) ∧ w'.ownsRow wx.heap.size 30 4 (.slice ao l.length cap) l.length (flatE l) ∧ (Ty.nodes n t).Perm (l.map (·.t)) ∧ (∀ p ∈ l, p.up wx) ∧ Below wx.heap.size wx w') := fun wx hx => (implPartsOf n lo hi [x0, x1, x2, x3] t wx (h.below hx (Nat.le_refl _)) hbk).mono fun e w' hh => by
    obtain ⟨v, l, h1, h2, h3⟩ := hh
    obtain ⟨ao, cap, rfl⟩ := slice_ownT h2
    exact ⟨ao, cap, l, h1, h2, h3⟩
  obtain ⟨i0, hi0, hz0, hz1, hz2⟩ := info_parts Try.infoString
  have HSM : Hid (∀ u ∈ Ty.nodes n t, u.name.size ≤ 1048576) := fun u hu => Nat.le_trans (name_small n t u hu) hbk
  clear h hbk
  generalize Ty.nodes n t = N at *
  have hB1 : Below w.heap.size w (w.alloc (.cells #[x0, x1, x2, x3] 30)) := (Below.refl _ _).alloc (Nat.le_refl _) _
  go_enter Try.func25, Try.ntmps25
  go_wp2_with fail
  refine (HC.out _ hB1).mono ?_
  rintro e w2 ⟨ao, cap, l, rfl, ho, hperm, hfit, hb2⟩
  have hb02 : Below w.heap.size w w2 := hB1.trans (hb2.mono (by simp))
  have HP : Hid (∀ x, x ∈ namesOf l ↔ namesIn n t x) := fun x => by rw [namesOf_mem hperm, HNI.out]
  have HSL : Hid (∀ p ∈ l, p.t.name.size ≤ 1048576) := fun p hp => HSM.out _ (hperm.mem_iff.2 (List.mem_map.2 ⟨p, hp, rfl⟩))
  have hll : l.length ≤ 1048577 := by have := hperm.length_eq; rw [List.length_map] at this; omega
  have HO : Hid (type_of% ho) := ho
  have HF : Hid (type_of% hfit) := hfit
  clear HC HNI hperm ho hfit hB1 hb2 HSM
  go_wp2_with fail
  go_loopw [3, 9] (fun v i wr => ∃ (k : Nat) (zs : List ByteArray), k ≤ l.length ∧ i = .int .i64 k ∧ zs = namesOf (l.take k) ∧ wr.ownsRow w2.heap.size 9 1 v zs.length (strV zs) ∧ Below w2.heap.size w2 wr) (fun _ i _ => l.length - (intOf i).toNat)
  case atStart => exact ⟨0, [], Nat.zero_le _, rfl, rfl, World.ownsRow_nil _ _ _ _, Below.refl _ _⟩
  case round =>
    obtain ⟨k, zs, hk, rfl, hzs, how, hbe⟩ := hrel
    have hzl : zs.length ≤ k := by rw [hzs]; have := namesOf_len (l.take k); rw [List.length_take] at this; omega
    have HZ : Hid (zs = namesOf (l.take k)) := hzs
    have hbw : Below w.heap.size w wr := hb02.trans (hbe.mono hb02.size)
    have hz2w : w2.heap.size ≤ wr.heap.size := hbe.size
    clear hzs
    by_cases hlt : k < l.length
    · obtain ⟨g, capg, e, hcell⟩ := row_cells HO.out HF.out k hlt
      simp only [Value.slice.injEq, true_and] at e
      obtain ⟨rfl, rfl⟩ := e
      obtain ⟨an, ln, cn, ak, lk, ck, hcs⟩ := (HF.out _ (List.getElem_mem hlt)).shape
      rw [hcs] at hcell
      have hgl : g < w2.heap.size := World.block_lt_of_cell? w2 ⟨g, k * 4 + 0, none⟩ (hcell 0 _ rfl)
      have c0 := (hbe.cell (p := ⟨g, k * 4 + 0, none⟩) hgl).trans (hcell 0 _ rfl)
      have c1 := (hbe.cell (p := ⟨g, k * 4 + 1, none⟩) hgl).trans (hcell 1 _ rfl)
      have c2 := (hbe.cell (p := ⟨g, k * 4 + 2, none⟩) hgl).trans (hcell 2 _ rfl)
      have c3 := (hbe.cell (p := ⟨g, k * 4 + 3, none⟩) hgl).trans (hcell 3 _ rfl)
      rw [Nat.add_zero] at c0
      have hsm : l[k].t.name.size ≤ 1048576 := HSL.out _ (List.getElem_mem hlt)
      by_cases h4 : l[k].t.kind = 4
      · have HZ2 : Hid (zs ++ [l[k].t.name] = namesOf (l.take (k + 1))) := by show _ = _; rw [namesOf_more l k hlt, if_pos h4, HZ.out]
        rw [h4] at c0
        generalize l[k].t.name = nm at *
        obtain ⟨az, capz, hv⟩ := slice_ownT how
        subst hv
        have HOW : Hid (type_of% how) := how
        clear hcell hcs h4 HF HO HP HSL
        go_wp2_with (at_builtin; refine wpList_append_own _ rfl _ _ 22 rfl w2.heap.size 9 i0 (.string ⟨#[]⟩) 1 16 Try.underlying22 hi0 hz0 hz1 hz2 rfl (by decide) _ _ _ rfl ((how.alloc _).alloc _) ⟨wr.heap.size + 1, 0, none⟩ 1 1 [.string nm] rfl rfl ?c1 ?c2 ?c3 ?c4 ?c5 ?_)
        case c1 => exact one_cellI (cellNew 0 (by simp))
        case c2 => intro u hu; simp at hu; subst hu; rfl
        case c3 => unfold maxLen; omega
        case c4 => omega
        case c5 => simp; omega
        intro v' w4 hown' hgrow _
        have R1 : w4.ownsRow w2.heap.size 9 1 v' (zs ++ [nm]).length (strV (zs ++ [nm])) := by simpa [strV] using hown'
        have R2 : Below w2.heap.size w2 w4 := ((hbe.alloc hz2w _).alloc (by simp; omega) _).grown hgrow (by simp; omega) (fun j hj => (HOW.out.lt j hj).1)
        clear hown' hgrow HOW how
        go_wp2_with fail
        go_roundw
        case rel => exact ⟨k + 1, zs ++ [nm], by omega, by go_num, HZ2.out, R1, R2⟩
        case measure => simp [intOf]; omega
      · have HZ2 : Hid (zs = namesOf (l.take (k + 1))) := by show _ = _; rw [namesOf_more l k hlt, if_neg h4, List.append_nil, HZ.out]
        generalize l[k].t.name = nm at *
        generalize l[k].t.kind = kd at *
        clear hcell hcs HF HO HP
        go_wp2_with fail
        go_roundw
        case rel => exact ⟨k + 1, zs, by omega, by go_num, HZ2.out, how.alloc _, hbe.alloc hz2w _⟩
        case measure => simp [intOf]; omega
    · have hke : k = l.length := by omega
      rw [hke, List.take_of_length_le (Nat.le_refl _)] at HZ
      have HM : Hid (∀ x, x ∈ uniq zs ↔ namesIn n t x) := fun x => by rw [uniq_mem, HZ.out, HP.out]
      have HA : Hid (Asc (uniq zs)) := uniq_asc zs
      have hul := uniq_len zs
      have hbB : w.heap.size ≤ w2.heap.size := hb02.size
      clear HF HO HP HSL HZ
      rcases how.2 with ⟨hv, h0⟩ | ⟨g, cz, cur, hv, hg, _⟩
      · subst hv
        have hz0' : zs = [] := List.length_eq_zero_iff.1 h0
        subst hz0'
        have hu0 : uniq [] = [] := List.length_eq_zero_iff.1 (by simpa using hul)
        rw [hu0] at HM HA
        clear how hu0
        go_wp2_with fail
        refine (Try.slices_Sort_string_none none 0 wr).mono ?_
        rintro e w3 ⟨rfl, rfl⟩
        go_wp2_with fail
        refine (Try.slices_Compact_string_empty none 0 w3).mono ?_
        rintro e w4 ⟨rfl, rfl⟩
        go_wp2_with fail
        go_ret
        exact ⟨none, 0, [], rfl, World.ownsRow_nil _ _ _ _, by simp, HA.out, HM.out, hbw⟩
      · subst hv
        have HS := sortS how (by omega)
        have HS2 : Hid (type_of% HS) := HS
        have HK : Hid (∀ nn os, type_of% (compactS (nn := nn) (os := os) how (by omega))) := fun nn os => compactS how (by omega)
        have HO : Hid (type_of% how) := how
        clear how HS
        go_wp2_with fail
        refine HS2.out.mono ?_
        rintro e w3 ⟨rfl, nn, os, rfl⟩
        go_wp2_with fail
        refine (HK.out nn os).mono ?_
        rintro e w4 ⟨rfl, q, rfl⟩
        obtain ⟨F1, F2⟩ := uniq_end (nn := nn) (q := q) (os := os) HO.out (Below.refl _ _) hz2w
        go_wp2_with fail
        go_ret
        exact ⟨some ⟨g, 0, none⟩, cz, uniq zs, rfl, ⟨F1.1, F1.2.imp id (fun ⟨g', c', cur', e1, e2, e3⟩ => ⟨g', c', cur', e1, Nat.le_trans hbB e2, e3⟩)⟩, by omega, HA.out, HM.out, hbw.trans (F2.mono (by omega))⟩

set_option maxHeartbeats 800000 in
set_option maxRecDepth 100000 in
theorem implNames (n lo hi : Nat) (cs : List Value) (t : Ty) (w : World) (h : TyUp w n lo hi cs t) (hbk : Ty.bulk n t ≤ 1048576) :
    Calls Try.prog 11 #[.agg cs.toArray] w fun e w' => ∃ ao cap r, e = .returned (.slice ao r.length cap) ∧ w'.ownsRow w.heap.size 9 1 (.slice ao r.length cap) r.length (strV r) ∧ r.length ≤ 1048577 ∧ Asc r ∧ (∀ x, x ∈ r ↔ namesIn n t x) ∧ Below w.heap.size w w' := by
  obtain ⟨x0, x1, x2, x3, rfl⟩ : ∃ x0 x1 x2 x3, cs = [x0, x1, x2, x3] := by
    obtain ⟨an, ln, cn, ak, lk, ck, e⟩ := h.shape
    exact ⟨_, _, _, _, e⟩
  obtain ⟨W1, hW1⟩ : ∃ W1, W1 = w.alloc (.cells #[x0, x1, x2, x3] 30) := ⟨_, rfl⟩
  have hb1 : Below w.heap.size w W1 := by rw [hW1]; exact (Below.refl _ _).alloc (Nat.le_refl _) _
  have hz1 : W1.heap.size = w.heap.size + 1 := by rw [hW1]; simp
  have hbox : W1.heap[w.heap.size]? = some (.cells #[x0, x1, x2, x3] 30 (0, 0)) := by rw [hW1]; exact (MapKept.heap_alloc w _).1
  have HQ : Hid (∀ X, Below W1.heap.size W1 X → X.cell? ⟨w.heap.size, 0, none⟩ = some x0 ∧ X.cell? ⟨w.heap.size, 1, none⟩ = some x1 ∧ X.cell? ⟨w.heap.size, 2, none⟩ = some x2 ∧ X.cell? ⟨w.heap.size, 3, none⟩ = some x3) := fun X hX => by
    have hr := (hX.block w.heap.size (by omega)).trans hbox
    refine ⟨?_, ?_, ?_, ?_⟩
    · rw [cell_of_row X _ 0 _ _ (0, 0) hr]; rfl
    · rw [cell_of_row X _ 1 _ _ (0, 0) hr]; rfl
    · rw [cell_of_row X _ 2 _ _ (0, 0) hr]; rfl
    · rw [cell_of_row X _ 3 _ _ (0, 0) hr]; rfl
  have HNW : Hid (∀ X, Below W1.heap.size W1 X → X.heap.size = W1.heap.size → Calls Try.prog 23 #[] X fun e w' => e = .returned (.pointer (some ⟨W1.heap.size, 0, none⟩)) ∧ Below W1.heap.size W1 w' ∧ w'.heap.size = W1.heap.size + 1 ∧ w'.heap[W1.heap.size]? = some (.cells #[.int .i64 8589934592, .bool false, .map none, .map none] 53 (0, 0))) := fun X hX hz => by
    refine (implNewCopier X).mono ?_
    rintro e w' ⟨rfl, rfl⟩
    rw [← hz]
    exact ⟨rfl, by rw [hz]; exact hX.alloc (by omega) _, by simp, (MapKept.heap_alloc X _).1⟩
  have HNI : Hid (∀ X, Below W1.heap.size W1 X → Calls Try.prog 25 #[.agg #[x0, x1, x2, x3]] X fun e w' => ∃ ao cap r, e = .returned (.slice ao r.length cap) ∧ w'.ownsRow X.heap.size 9 1 (.slice ao r.length cap) r.length (strV r) ∧ r.length ≤ 1048577 ∧ Asc r ∧ (∀ x, x ∈ r ↔ namesIn n t x) ∧ Below X.heap.size X w') := fun X hX => implNamesIn n lo hi [x0, x1, x2, x3] t X (h.below (hb1.trans (hX.mono (by omega))) (Nat.le_refl _)) hbk
  have HCN : Hid (∀ (wc w2 : World) (ao : Option Addr) (cap : Nat) (r : List ByteArray), Below W1.heap.size W1 wc → wc.heap.size = W1.heap.size + 1 → wc.heap[W1.heap.size]? = some (.cells #[.int .i64 8589934592, .bool false, .map none, .map none] 53 (0, 0)) → w2.ownsRow wc.heap.size 9 1 (.slice ao r.length cap) r.length (strV r) → r.length ≤ 1048577 → (∀ x, x ∈ r ↔ namesIn n t x) → Below wc.heap.size wc w2 → Calls Try.prog 24 #[.pointer (some ⟨W1.heap.size, 0, none⟩), .slice ao r.length cap] w2 fun e w' => ∃ (a : Option Addr) (c : Nat), e = .returned (.slice a r.length c) ∧ w'.ownsRow w.heap.size 9 1 (.slice a r.length c) r.length (strV r) ∧ Below w.heap.size w w' ∧ Below W1.heap.size W1 w') := fun wc w2 ao cap r hbC hzC hcC ho hrl hmem hb2 => by
    have hz2 := hb2.size
    refine (implNamesC W1.heap.size 8589934592 _ _ _ (.slice ao r.length cap) r w2 (texts_ownN ho) hrl (fun x hx => ?_) ((hb2.block _ (by omega)).trans hcC) (by omega) (by omega)).mono ?_
    · obtain ⟨u, hu, _, rfl⟩ := (hmem x).1 hx
      exact Nat.le_trans (name_small n t u hu) hbk
    · rintro e w3 ⟨a, c, rfl, ho3, room', hb3⟩
      have hbe : Below W1.heap.size W1 w3 := ((hbC.trans (hb2.mono (by omega))).setCell (p := ⟨W1.heap.size, 0, none⟩) (Nat.le_refl _) _).trans (hb3.mono (by omega))
      exact ⟨a, c, rfl, ownLowN ho3 (by omega) (fun _ _ => rfl), hb1.trans (hbe.mono (by omega)), hbe⟩
  obtain ⟨c0, c1, c2, c3⟩ := HQ.out W1 (Below.refl _ _)
  clear h hbk hbox hz1 hb1
  go_enter Try.func11, Try.ntmps11
  go_wp2_with fail
  rw [← hW1]
  clear hW1
  go_region_held3 (fun w' => w'.cell? ⟨w.heap.size, 0, none⟩ = some x0 ∧ w'.cell? ⟨w.heap.size, 1, none⟩ = some x1 ∧ w'.cell? ⟨w.heap.size, 2, none⟩ = some x2 ∧ w'.cell? ⟨w.heap.size, 3, none⟩ = some x3)
    (first
      | (revert hq3; intro hq3; exact hq3)
      | (revert hq2; intro hq2; exact hq2)
      | (revert hq1; intro hq1; exact hq1)
      | exact ⟨c0, c1, c2, c3⟩)
    (first
      | (go_at_call 23; refine (HNW.out _ (Below.refl _ _).drew rfl).mono ?_; rintro e wc ⟨rfl, hbC, hzC, hcC⟩; have hq1 := HQ.out wc hbC)
      | (go_at_call 25; refine (HNI.out wc hbC).mono ?_; rintro e w2 ⟨ao, cap, r, rfl, ho, hrl, hasc, hmem, hb2⟩; have hq2 := HQ.out w2 (hbC.trans (hb2.mono hbC.size)); have HE : Hid (type_of% (And.intro hasc hmem)) := ⟨hasc, hmem⟩)
      | (go_at_call 24; refine (HCN.out wc w2 _ _ _ hbC hzC hcC ho hrl hmem hb2).mono ?_; rintro e w3 ⟨a, c, rfl, ho3, hbe, hb3⟩; have hq3 := HQ.out w3 hb3; have HO3 : Hid (type_of% ho3) := ho3))
  all_goals
    clear HQ HNI HCN HNW c0 c1 c2 c3 hq1 hq2 hq3 hbC hzC hcC ho hasc hmem hb2 ho3 hb3
    go_wp2_with fail
    go_ret
    exact ⟨a, c, r, rfl, HO3.out, hrl, HE.out.1, HE.out.2, hbe⟩

end Go.Proofs.Ytfmfihgmpefknac
