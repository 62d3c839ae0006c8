/-
  The walk of impl.newStock.
-/
import Derived.Test.YtllbfbllkefjeaaGreatDoorMapT
import Derived.Test.YtllbfbllkefjeaaGreatDoorKeyW
import Derived.Test.YtllbfbllkefjeaaGreatDoorRegS
import Derived.Deep.Cut
namespace Go.Proofs.YtllbfbllkefjeaaGreatDoor
open Go.RowKit
open Go.Sort (grow)

/-- the cells of a stock whose lock is free -/
abbrev stockCells (room : Int) (v : Value) (M : Nat) : Array Value := #[.int .i32 0, .int .u32 0, .int .i64 room, v, .map (some M)]
/-- what newStock has made of a store that is right -/
structure NewStock (B : Nat) (w : World) (room : Int) (es : List Itm) (k : Nat) (sb M : Nat) (a : Option Addr) (c : Nat) : Prop where
  box : w.heap[sb]? = some (.cells (stockCells room (.slice a es.length c) M) 152 (0, 0))
  row : w.ownsRow B 83 3 (.slice a es.length c) es.length (itV es)
  map : TMap w M (stoD es k)
  bs : B ≤ sb
  bm : B ≤ M
theorem NewStock.below {B : Nat} {w w' : World} {room : Int} {es : List Itm} {k sb M : Nat} {a : Option Addr} {c : Nat} (h : NewStock B w room es k sb M a c) (hb : Below w.heap.size w w') : NewStock B w' room es k sb M a c :=
  ⟨(hb.block sb (Array.getElem?_eq_some_iff.1 h.box).1).trans h.box, itKept h.row hb, h.map.same (hb.block M h.map.lt), h.bs, h.bm⟩

theorem NewStock.put {B : Nat} {w w' : World} {room : Int} {es : List Itm} {k k' sb M : Nat} {a : Option Addr} {c : Nat} (h : NewStock B w room es k sb M a c) (hM : TMap w' M (stoD es k')) (hb : ButT M w.drew w') : NewStock B w' room es k' sb M a c := by
  obtain ⟨es0, ck, hm, _⟩ := h.map
  refine ⟨(hb.2.2.2.2 sb fun e => ?_).trans h.box, ButT.owns (w := w.drew) hb ⟨es0, ck, hm⟩ h.row, hM, h.bs, h.bm⟩
  have := h.box
  rw [e, hm] at this
  cases this

theorem step_openI {P : Program} {ops : Array Oper} {o : Oper} {a : Act} {w : World} {K : Act → World → Prop} {Q : Exit → Act → World → Prop} {E : Prop} (hg : o.guard = none) (h : Oper.wp P o a w K Q) : if Region.wanted o (yielded ops a.tmps) = true then Oper.wp P o a w K Q else E := by
  have hw : Region.wanted o (yielded ops a.tmps) = true := by simp [Region.wanted, hg]
  rw [if_pos hw]
  exact h

theorem butCell {M : Nat} {w w' : World} {b o : Nat} {u : Value} (h : ButT M w.drew w') (hM : ∃ es ck, w.heap[M]? = some (.map es ck)) (hc : w.cell? ⟨b, o, none⟩ = some u) : w'.cell? ⟨b, o, none⟩ = some u := by
  have hne : b ≠ M := fun e => by
    obtain ⟨es, ck, hm⟩ := hM
    subst e
    simp [World.cell?, hm] at hc
  have hh : w'.heap[b]? = w.heap[b]? := h.2.2.2.2 b hne
  rw [← hc]
  simp only [World.cell?, hh]

theorem block5 {W : World} {b : Nat} {x0 x1 x2 x3 x4 : Value} {t : TypeId} (h : W.heap[b]? = some (.cells #[x0, x1, x2, x3, x4] t (0, 0))) : (W.cell? ⟨b, 0, none⟩ = some x0 ∧ W.cell? ⟨b, 1, none⟩ = some x1 ∧ W.cell? ⟨b, 2, none⟩ = some x2 ∧ W.cell? ⟨b, 3, none⟩ = some x3 ∧ W.cell? ⟨b, 4, none⟩ = some x4) ∧ ∀ j, W.frozen? ⟨b, j, none⟩ = false := by
  refine ⟨⟨?_, ?_, ?_, ?_, ?_⟩, fun j => frozen_of_row W b j _ _ h⟩
  · rw [cell_of_row W b 0 _ _ (0, 0) h]; rfl
  · rw [cell_of_row W b 1 _ _ (0, 0) h]; rfl
  · rw [cell_of_row W b 2 _ _ (0, 0) h]; rfl
  · rw [cell_of_row W b 3 _ _ (0, 0) h]; rfl
  · rw [cell_of_row W b 4 _ _ (0, 0) h]; rfl

theorem stock_mapLast {w W1 w2 : World} {room : Int} {av : Option Addr} {capv : Nat} {es : List Itm} {a : Option Addr} {c : Nat} (hB1 : Below w.heap.size w W1) (hz1 : w.heap.size < W1.heap.size)
    (ho2 : w2.ownsRow W1.drew.heap.size 83 3 (.slice a es.length c) es.length (itV es)) (hb2 : Below W1.drew.heap.size W1.drew w2) (q0 : w2.cell? ⟨w.heap.size, 0, none⟩ = some (.int .i64 room)) (q1 : w2.cell? ⟨w.heap.size, 1, none⟩ = some (.slice av es.length capv)) :
    NewStock w.heap.size ((w2.alloc (.map #[] 0)).alloc (.cells (stockCells room (.slice a es.length c) w2.heap.size) 152)) room es 0 (w2.heap.size + 1) w2.heap.size a c ∧ w.heap.size + 1 ≤ w2.heap.size + 1 ∧ w.heap.size + 1 ≤ w2.heap.size ∧ Below w.heap.size w ((w2.alloc (.map #[] 0)).alloc (.cells (stockCells room (.slice a es.length c) w2.heap.size) 152)) ∧ ((w2.alloc (.map #[] 0)).alloc (.cells (stockCells room (.slice a es.length c) w2.heap.size) 152)).cell? ⟨w.heap.size, 0, none⟩ = some (.int .i64 room) ∧ ((w2.alloc (.map #[] 0)).alloc (.cells (stockCells room (.slice a es.length c) w2.heap.size) 152)).cell? ⟨w.heap.size, 1, none⟩ = some (.slice av es.length capv) := by
  have hz2 : W1.heap.size ≤ w2.heap.size := hb2.size
  have b1 : Below w2.heap.size w2 (w2.alloc (.map #[] 0)) := (Below.refl _ _).alloc (Nat.le_refl _) _
  have hzm : (w2.alloc (.map #[] 0)).heap.size = w2.heap.size + 1 := by simp
  have b2 : Below (w2.alloc (.map #[] 0)).heap.size (w2.alloc (.map #[] 0)) ((w2.alloc (.map #[] 0)).alloc (.cells (stockCells room (.slice a es.length c) w2.heap.size) 152)) := (Below.refl _ _).alloc (Nat.le_refl _) _
  have b3 := b1.trans (b2.mono (by omega))
  have hmap : (w2.alloc (.map #[] 0)).heap[w2.heap.size]? = some (.map #[] 0) := (MapKept.heap_alloc w2 _).1
  have hbox := (MapKept.heap_alloc (w2.alloc (.map #[] 0)) (.cells (stockCells room (.slice a es.length c) w2.heap.size) 152)).1
  rw [hzm] at hbox
  refine ⟨⟨hbox, itLow (itKept ho2 b3) ?_ (fun g _ => rfl), TMap.made ((b2.block w2.heap.size (by omega)).trans hmap), by omega, by omega⟩, by omega, by omega, ?_, ?_, ?_⟩
  · show w.heap.size ≤ W1.heap.size
    omega
  · exact (hB1.drew.trans (hb2.mono (by show w.heap.size ≤ W1.heap.size; omega))).trans (b3.mono (by omega))
  · exact (b3.cell (p := ⟨w.heap.size, 0, none⟩) (by show w.heap.size < w2.heap.size; omega)).trans q0
  · exact (b3.cell (p := ⟨w.heap.size, 1, none⟩) (by show w.heap.size < w2.heap.size; omega)).trans q1

theorem stock_mapFirst {w W1 w2 : World} {room : Int} {av : Option Addr} {capv : Nat} {es : List Itm} {a : Option Addr} {c : Nat} (hB1 : Below w.heap.size w W1) (hz1 : w.heap.size < W1.heap.size)
    (ho2 : w2.ownsRow (W1.drew.alloc (.map #[] 0)).heap.size 83 3 (.slice a es.length c) es.length (itV es)) (hb2 : Below (W1.drew.alloc (.map #[] 0)).heap.size (W1.drew.alloc (.map #[] 0)) w2) (q0 : w2.cell? ⟨w.heap.size, 0, none⟩ = some (.int .i64 room)) (q1 : w2.cell? ⟨w.heap.size, 1, none⟩ = some (.slice av es.length capv)) :
    NewStock w.heap.size (w2.alloc (.cells (stockCells room (.slice a es.length c) W1.heap.size) 152)) room es 0 w2.heap.size W1.heap.size a c ∧ w.heap.size + 1 ≤ w2.heap.size ∧ w.heap.size + 1 ≤ W1.heap.size ∧ Below w.heap.size w (w2.alloc (.cells (stockCells room (.slice a es.length c) W1.heap.size) 152)) ∧ (w2.alloc (.cells (stockCells room (.slice a es.length c) W1.heap.size) 152)).cell? ⟨w.heap.size, 0, none⟩ = some (.int .i64 room) ∧ (w2.alloc (.cells (stockCells room (.slice a es.length c) W1.heap.size) 152)).cell? ⟨w.heap.size, 1, none⟩ = some (.slice av es.length capv) := by
  have hzm : (W1.drew.alloc (.map #[] 0)).heap.size = W1.heap.size + 1 := by simp
  have hz2 : (W1.drew.alloc (.map #[] 0)).heap.size ≤ w2.heap.size := hb2.size
  have hmap : (W1.drew.alloc (.map #[] 0)).heap[W1.heap.size]? = some (.map #[] 0) := (MapKept.heap_alloc W1.drew _).1
  have b1 : Below W1.drew.heap.size W1.drew (W1.drew.alloc (.map #[] 0)) := (Below.refl _ _).alloc (Nat.le_refl _) _
  have hzd : W1.drew.heap.size = W1.heap.size := rfl
  have b3 : Below w2.heap.size w2 (w2.alloc (.cells (stockCells room (.slice a es.length c) W1.heap.size) 152)) := (Below.refl _ _).alloc (Nat.le_refl _) _
  have hbox := (MapKept.heap_alloc w2 (.cells (stockCells room (.slice a es.length c) W1.heap.size) 152)).1
  have hm2 : w2.heap[W1.heap.size]? = some (.map #[] 0) := (hb2.block W1.heap.size (by omega)).trans hmap
  refine ⟨⟨hbox, itLow (itKept ho2 b3) (by omega) (fun g _ => rfl), TMap.made ((b3.block W1.heap.size (by omega)).trans hm2), by omega, by omega⟩, by omega, by omega, ?_, ?_, ?_⟩
  · exact ((hB1.drew.trans (b1.mono (by omega))).trans (hb2.mono (by omega))).trans (b3.mono (by omega))
  · exact (b3.cell (p := ⟨w.heap.size, 0, none⟩) (by show w.heap.size < w2.heap.size; omega)).trans q0
  · exact (b3.cell (p := ⟨w.heap.size, 1, none⟩) (by show w.heap.size < w2.heap.size; omega)).trans q1

set_option maxHeartbeats 1600000 in
set_option maxRecDepth 100000 in
theorem implNewStock (room : Int) (v : Value) (es : List Itm) (w : World) (hrow : ItAt w v es) (hb : itsBulk es ≤ 4194304) (htab : w.cell? ⟨5, 15, none⟩ = some (.int .u8 4)) :
    Calls Tryz.prog 76 #[.agg #[.int .i64 room, v]] w fun e w' => Below w.heap.size w w' ∧ ((¬ StoreRight room es ∧ e = .returned (.tuple #[.pointer none, .bool false])) ∨ (StoreRight room es ∧ ∃ sb M a c, e = .returned (.tuple #[.pointer (some ⟨sb, 0, none⟩), .bool true]) ∧ NewStock w.heap.size w' room es es.length sb M a c)) := by
  obtain ⟨av, capv, rfl, hel⟩ := itOpen hrow
  have hlen : es.length ≤ 4194304 := by unfold itsBulk at hb; omega
  have hB1 : Below w.heap.size w (w.alloc (.cells #[.int .i64 room, .slice av es.length capv] 35)) := (Below.refl _ _).alloc (Nat.le_refl _) _
  have hz1 : w.heap.size < (w.alloc (.cells #[.int .i64 room, .slice av es.length capv] 35)).heap.size := by simp
  have k0 : (w.alloc (.cells #[.int .i64 room, .slice av es.length capv] 35)).cell? ⟨w.heap.size, 0, none⟩ = some (.int .i64 room) := by simp
  have k1 : (w.alloc (.cells #[.int .i64 room, .slice av es.length capv] 35)).cell? ⟨w.heap.size, 1, none⟩ = some (.slice av es.length capv) := by simp
  have HEL : Hid (type_of% hel) := hel
  have hmm := @run_makeMap Tryz.prog
  have HCL : Hid (∀ X, Below w.heap.size w X → Calls Tryz.prog 84 #[.slice av es.length capv] X fun e w' => ∃ (a : Option Addr) (c : Nat), e = .returned (.slice a es.length c) ∧ w'.ownsRow X.heap.size 83 3 (.slice a es.length c) es.length (itV es) ∧ Below X.heap.size X w') := fun X hX => slCloneI _ es X (hrow.below hX) hlen
  have HB : Hid (type_of% hb) := hb
  have HT : Hid (type_of% htab) := htab
  clear hel hrow hb htab
  by_cases hr1 : room < 0
  · have HNO : Hid (¬ StoreRight room es) := fun h => absurd h.2.1 (by omega)
    clear HEL HCL HB HT
    go_enter Tryz.func76, Tryz.ntmps76
    go_wp2_with fail
    go_ret2
    exact ⟨hB1, .inl ⟨HNO.out, rfl⟩⟩
  by_cases hr2 : 100 < room
  · have HNO : Hid (¬ StoreRight room es) := fun h => absurd h.2.2.1 (by omega)
    clear HEL HCL HB HT
    go_enter Tryz.func76, Tryz.ntmps76
    go_wp2_with fail
    go_ret2
    exact ⟨hB1, .inl ⟨HNO.out, rfl⟩⟩
  by_cases hr3 : room < (es.length : Int)
  · have HNO : Hid (¬ StoreRight room es) := fun h => absurd h.2.2.2 (by omega)
    clear HEL HCL HB HT
    go_enter Tryz.func76, Tryz.ntmps76
    go_wp2_with fail
    go_ret2
    exact ⟨hB1, .inl ⟨HNO.out, rfl⟩⟩
  go_enter Tryz.func76, Tryz.ntmps76
  go_wp2_with fail
  go_cut [4] from 25 to 32 (fun p wx => ∃ (sb M : Nat) (a : Option Addr) (c : Nat), p = .pointer (some ⟨sb, 0, none⟩) ∧ NewStock w.heap.size wx room es 0 sb M a c ∧ w.heap.size + 1 ≤ sb ∧ w.heap.size + 1 ≤ M ∧ Below w.heap.size w wx ∧ wx.cell? ⟨w.heap.size, 0, none⟩ = some (.int .i64 room) ∧ wx.cell? ⟨w.heap.size, 1, none⟩ = some (.slice av es.length capv))
  case first =>
    clear HEL HB HT
    generalize hW1 : (w.alloc (.cells #[.int .i64 room, .slice av es.length capv] 35)) = W1 at *
    clear hW1
    have hD1 : Below w.heap.size w W1.drew := hB1.drew
    have hD2 : Below w.heap.size w (W1.drew.alloc (.map #[] 0)) := hD1.alloc hD1.size _
    have m0 : (W1.drew.alloc (.map #[] 0)).cell? ⟨w.heap.size, 0, none⟩ = some (.int .i64 room) := (((Below.refl W1.drew.heap.size W1.drew).alloc (Nat.le_refl _) _).cell (p := ⟨w.heap.size, 0, none⟩) hz1).trans k0
    have m1 : (W1.drew.alloc (.map #[] 0)).cell? ⟨w.heap.size, 1, none⟩ = some (.slice av es.length capv) := (((Below.refl W1.drew.heap.size W1.drew).alloc (Nat.le_refl _) _).cell (p := ⟨w.heap.size, 1, none⟩) hz1).trans k1
    go_region_with (go_at_call 84; first | (refine (HCL.out _ hD1).mono ?_; rintro e w2 ⟨a, c, rfl, ho2, hb2⟩; have q0 := (hb2.cell (p := ⟨w.heap.size, 0, none⟩) hz1).trans k0; have q1 := (hb2.cell (p := ⟨w.heap.size, 1, none⟩) hz1).trans k1; have n0 := (((Below.refl w2.heap.size w2).alloc (Nat.le_refl _) (.map #[] 0)).cell (p := ⟨w.heap.size, 0, none⟩) (Nat.lt_of_lt_of_le hz1 hb2.size)).trans q0) | (refine (HCL.out _ hD2).mono ?_; rintro e w2 ⟨a, c, rfl, ho2, hb2⟩; have q0 := (hb2.cell (p := ⟨w.heap.size, 0, none⟩) (by simp; omega)).trans m0; have q1 := (hb2.cell (p := ⟨w.heap.size, 1, none⟩) (by simp; omega)).trans m1))
    all_goals
      go_wp2_with fail
      go_meet
      first
        | exact ⟨_, _, _, _, rfl, stock_mapLast hB1 hz1 ho2 hb2 q0 q1⟩
        | exact ⟨_, _, _, _, rfl, stock_mapFirst hB1 hz1 ho2 hb2 q0 q1⟩
  case rest =>
    obtain ⟨sb, M, a, c, rfl, hNS, hsb, hMb, hbw, K0, K1⟩ := hcut
    clear hB1 hz1 k0 k1
    have HN0 : Hid (type_of% hNS) := hNS
    clear hNS
    go_wp2_with fail
    go_loopw [36] (fun i wr => ∃ k : Nat, k ≤ es.length ∧ i = .int .i64 k ∧ (∀ j (h : j < es.length), j < k → ItFine es j h) ∧ NewStock w.heap.size wr room es k sb M a c ∧ Below w.heap.size w wr) (fun i _ => es.length - (intOf i).toNat)
    case atStart => exact ⟨0, Nat.zero_le _, rfl, fun j _ h => absurd h (by omega), HN0.out, hbw⟩
    case round =>
      obtain ⟨k, hk, rfl, hall, hNS, hbe⟩ := hrel
      have HALL : Hid (type_of% hall) := hall
      clear hall HN0 hbw K0 K1 HCL
      by_cases hlt : k < es.length
      · obtain ⟨b, off, rfl, hbl, p0, p1, p2⟩ := HEL.out k hlt
        have c0 := (hbe.cell (p := ⟨b, off + k * 3, none⟩) hbl).trans p0
        have c1 := (hbe.cell (p := ⟨b, off + k * 3 + 1, none⟩) hbl).trans p1
        have c2 := (hbe.cell (p := ⟨b, off + k * 3 + 2, none⟩) hbl).trans p2
        have hk0i : (0 : Int) ≤ (k : Int) := by omega
        have hk1i : (k : Int) < (es.length : Int) := by omega
        have hbk := it_bulk es k hlt
        have hBB := HB.out
        have HKEY : Hid (∀ X : World, X.cell? ⟨5, 15, none⟩ = some (.int .u8 4) → Calls Tryz.prog 100 #[.string es[k].2.1] X fun e w' => e = .returned (.string (keyB es[k].2.1)) ∧ Below X.heap.size X w') := fun X hX => implKey _ X (by omega) hX
        have HTB : Hid (∀ X : World, Below w.heap.size w X → X.cell? ⟨5, 15, none⟩ = some (.int .u8 4)) := fun X hX => (hX.cell (p := ⟨5, 15, none⟩) (World.block_lt_of_cell? w ⟨5, 15, none⟩ HT.out)).trans HT.out
        have HDUP : Hid (∀ z, lookT (stoD es k) es[k].2.1 = some z → ¬ StoreRight room es) := fun z hz hR => by
          rw [stoD_none es k hk es[k].2.1 fun j hj => (hR.1 k hlt).2 j hj] at hz
          cases hz
        have HBAD : Hid (¬ es[k].1 = keyB es[k].2.1 → ¬ StoreRight room es) := fun h hR => h (hR.1 k hlt).1
        have HNEW : Hid (lookT (stoD es k) es[k].2.1 = none → es[k].1 = keyB es[k].2.1 → ∀ j (h : j < es.length), j < k + 1 → ItFine es j h) := fun h1 h2 j hj hjk => by
          by_cases cc : j = k
          · subst cc
            refine ⟨h2, fun i hi he => ?_⟩
            have hex : ∃ i, ∃ _ : i < j, (es[i]'(by omega)).2.1 = es[j].2.1 := ⟨i, hi, he⟩
            rw [stoD_some es j hk es[j].2.1 i hi he fun i' hi' he' => (HALL.out i (by omega) hi).2 i' hi' (he'.trans he.symm)] at h1
            cases h1
          · exact HALL.out j hj (by omega)
        have HMORE : Hid (stoD es (k + 1) = stoD es k ++ [(es[k].2.1, .int .i64 k)]) := stoD_more es k hlt
        clear p0 p1 p2 HEL hbk hBB HALL
        generalize keyB es[k].2.1 = ky at *
        generalize hx0 : es[k].1 = x0 at *
        generalize hx1 : es[k].2.1 = x1 at *
        generalize hx2 : es[k].2.2 = x2 at *
        clear hx0 hx1 hx2
        have hA : Below wr.heap.size wr (wr.alloc (.cells #[.string x0, .string x1, .string x2] 83)) := (Below.refl _ _).alloc (Nat.le_refl _) _
        have i0 : (wr.alloc (.cells #[.string x0, .string x1, .string x2] 83)).cell? ⟨wr.heap.size, 0, none⟩ = some (.string x0) := itNew 0 rfl
        have i1 : (wr.alloc (.cells #[.string x0, .string x1, .string x2] 83)).cell? ⟨wr.heap.size, 1, none⟩ = some (.string x1) := itNew 1 rfl
        have hzW : wr.heap.size < (wr.alloc (.cells #[.string x0, .string x1, .string x2] 83)).heap.size := by simp
        have hNW := hNS.below hA
        have hbW : Below w.heap.size w (wr.alloc (.cells #[.string x0, .string x1, .string x2] 83)) := hbe.trans (hA.mono hbe.size)
        obtain ⟨⟨_, _, _, _, s4⟩, _⟩ := block5 hNW.box
        have HNW : Hid (type_of% hNW) := hNW
        clear hNS hA hNW
        go_wp2_with fail
        generalize (wr.alloc (.cells #[.string x0, .string x1, .string x2] 83)) = W at *
        clear c0 c1 c2
        cases hl : lookT (stoD es k) x1 with
        | some z =>
          have HNO : Hid (¬ StoreRight room es) := HDUP.out z hl
          have hlk : ∀ q, Sem.run Tryz.prog (Instr.lookup 95 (.map (some M)) (.string x1) true) (W.drewN q) = .ok (.tuple #[z, .bool true]) (W.drewN q) := fun q => lookTk (W := W.drewN q) (HNW.out.map.same rfl) x1 z hl
          clear hl HDUP HBAD HNEW HMORE HKEY HTB HNW HB HT
          go_quiet (fail)
          go_wp2_with fail
          go_quiet (fail)
          go_wp2_with fail
          go_ret2
          exact ⟨below_drewN (below_drewN hbW _) _, .inl ⟨HNO.out, rfl⟩⟩
        | none =>
          have hlk : ∀ q, Sem.run Tryz.prog (Instr.lookup 95 (.map (some M)) (.string x1) true) (W.drewN q) = .ok (.tuple #[.int .i64 0, .bool false]) (W.drewN q) := fun q => lookTkNo (W := W.drewN q) (HNW.out.map.same rfl) x1 hl
          have HNEW2 : Hid (type_of% (HNEW.out hl)) := HNEW.out hl
          have HL : Hid (type_of% hl) := hl
          clear hl HDUP HNEW HB HT
          go_quiet (fail)
          go_wp2_with fail
          generalize hX : W.drewN _ = X at *
          have bX : Below W.heap.size W X := hX ▸ below_drewN (Below.refl _ _) _
          clear hX hlk
          have hNX := HNW.out.below bX
          have hzX : wr.heap.size < X.heap.size := Nat.lt_of_lt_of_le hzW bX.size
          have j0 := (bX.cell (p := ⟨wr.heap.size, 0, none⟩) hzW).trans i0
          have j1 := (bX.cell (p := ⟨wr.heap.size, 1, none⟩) hzW).trans i1
          have hbX : Below w.heap.size w X := hbW.trans (bX.mono hbW.size)
          have HK : Hid (∀ d os, Calls Tryz.prog 100 #[.string x1] (grow (redrawn X d) os) fun e w' => e = .returned (.string ky) ∧ Below (grow (redrawn X d) os).heap.size (grow (redrawn X d) os) w') := fun d os => HKEY.out _ (cell_regrown (HTB.out X hbX) d os)
          have r0 : ∀ d os, (grow (redrawn X d) os).cell? ⟨wr.heap.size, 0, none⟩ = _ := fun d os => cell_regrown j0 d os
          have r1 : ∀ d os, (grow (redrawn X d) os).cell? ⟨wr.heap.size, 1, none⟩ = _ := fun d os => cell_regrown j1 d os
          have HNX : Hid (type_of% hNX) := hNX
          clear hNX HNW i0 i1 s4 hbW bX hzW HKEY HTB
          by_cases hd : x0 = ky
          · have hcmp := it_same hd
            have HNEW3 : Hid (type_of% (HNEW2.out hd)) := HNEW2.out hd
            clear hd HNEW2 HBAD
            refine wp_region_quiet_below (by kernel_rfl) (by kernel_rfl) ?_
            repeat (go_big_quiet_step (exact Calls.regrown_of (HK.out _ _)))
            refine wpQuiet_nil ?_
            intro _ hw'
            obtain ⟨⟨dq, osq⟩, hw''⟩ := hw'
            subst hw''
            have bY : Below X.heap.size X (grow (redrawn X dq) osq) := below_regrown X dq osq
            clear r0 r1 HK
            generalize grow (redrawn X dq) osq = Y at *
            have hNY := HNX.out.below bY
            have k1 := (bY.cell (p := ⟨wr.heap.size, 1, none⟩) hzX).trans j1
            have hbY : Below w.heap.size w Y := hbX.trans (bY.mono hbX.size)
            obtain ⟨⟨_, _, _, _, s4⟩, _⟩ := block5 hNY.box
            clear HNX j0 j1 hbX bY
            go_wp2_with fail
            obtain ⟨w3, hrun0, hM3, hbut⟩ := run_update_textT (P := Tryz.prog) (w := Y.drew) (T := 95) (k := 9) (e := 3) Tryz.underlying95 Tryz.underlying9 (hNY.map.same rfl) x1 HL.out (.int .i64 k)
            have hrun : Sem.run Tryz.prog (Instr.mapUpdate 95 (.map (some M)) (.string x1) (.int .i64 k)) Y.drew = .ok () w3 := hrun0
            have hQ0 : Y.cell? ⟨sb, 4, none⟩ = some (.map (some M)) ∧ Y.cell? ⟨wr.heap.size, 1, none⟩ = some (.string x1) := ⟨s4, k1⟩
            have hmN : ∃ e0 c0, Y.heap[M]? = some (.map e0 c0) := by
              obtain ⟨e0, ck0, h0, _⟩ := hNY.map
              exact ⟨e0, ck0, h0⟩
            have hQ3 : w3.cell? ⟨sb, 4, none⟩ = some (.map (some M)) ∧ w3.cell? ⟨wr.heap.size, 1, none⟩ = some (.string x1) := ⟨butCell hbut hmN s4, butCell hbut hmN k1⟩
            have HEND : Hid (NewStock w.heap.size w3 room es (k + 1) sb M a c ∧ Below w.heap.size w w3) := ⟨hNY.put (by rw [HMORE.out]; exact hM3) hbut, hbY.drew.trans (hbut.below hNY.bm)⟩
            clear hrun0 hM3 hbut hNY hbY HL HMORE hmN
            go_region_held3 (fun w' => w'.cell? ⟨sb, 4, none⟩ = some (.map (some M)) ∧ w'.cell? ⟨wr.heap.size, 1, none⟩ = some (.string x1)) (first | exact hQ0 | exact hQ3) (fail)
            clear hQ0 hQ3 s4 k1 hrun
            go_wp2_with fail
            go_roundw
            case rel => exact ⟨k + 1, by omega, by go_num, HNEW3.out, HEND.out.1, HEND.out.2⟩
            case measure => simp [intOf]; omega
          · have HNO : Hid (¬ StoreRight room es) := HBAD.out hd
            have hcmp := it_other hd
            clear hd HNEW2 HBAD HL HNX HMORE
            refine wp_region_quiet_below (by kernel_rfl) (by kernel_rfl) ?_
            repeat (go_big_quiet_step (exact Calls.regrown_of (HK.out _ _)))
            refine wpQuiet_nil ?_
            intro _ hw'
            obtain ⟨⟨dq, osq⟩, hw''⟩ := hw'
            subst hw''
            have D2 := hbX.trans ((below_regrown X dq osq).mono hbX.size)
            clear r0 r1 HK
            generalize grow (redrawn X dq) osq = Y at *
            go_wp2_with fail
            go_ret2
            exact ⟨D2, .inl ⟨HNO.out, rfl⟩⟩
      · have hke : k = es.length := by omega
        subst hke
        have HR : Hid (StoreRight room es) := ⟨fun j h => HALL.out j h h, hr1, hr2, hr3⟩
        have HNS : Hid (type_of% hNS) := hNS
        clear hNS HALL HEL HB HT
        go_wp2_with fail
        go_ret2
        exact ⟨hbe, .inr ⟨HR.out, sb, M, a, c, rfl, HNS.out⟩⟩

end Go.Proofs.YtllbfbllkefjeaaGreatDoor
