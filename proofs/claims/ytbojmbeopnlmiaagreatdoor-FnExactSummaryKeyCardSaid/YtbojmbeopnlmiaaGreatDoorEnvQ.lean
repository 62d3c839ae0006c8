/-
 A row of names and types, read by blocks.
-/
import Derived.Test.YtbojmbeopnlmiaaGreatDoorSuK
namespace Go.Proofs.YtbojmbeopnlmiaaGreatDoor
open Go.RowKit
def EnvR (A : Nat → Prop) (w : World) (n : Nat) (av : Option Addr) (es : List (ByteArray × Ty)) : Prop := ∀ j (h : j < es.length), ∃ b off x0 x1 x2 x3, av = some ⟨b, off, none⟩ ∧ A b ∧ es[j].1.size ≤ maxLen ∧ TyR A w n [x0, x1, x2, x3] es[j].2 ∧ w.cell? ⟨b, off + j * 5, none⟩ = some (.string es[j].1) ∧ w.cell? ⟨b, off + j * 5 + 1, none⟩ = some x0 ∧ w.cell? ⟨b, off + j * 5 + 2, none⟩ = some x1 ∧ w.cell? ⟨b, off + j * 5 + 3, none⟩ = some x2 ∧ w.cell? ⟨b, off + j * 5 + 4, none⟩ = some x3
theorem EnvR.same {A : Nat → Prop} {w w' : World} {n : Nat} {av : Option Addr} {es : List (ByteArray × Ty)} (h : EnvR A w n av es) (hs : SameOn A w w') : EnvR A w' n av es := fun j hj => by
 obtain ⟨b, off, x0, x1, x2, x3, e, ha, h1, h2, c0, c1, c2, c3, c4⟩ := h j hj
 exact ⟨b, off, x0, x1, x2, x3, e, ha, h1, h2.same hs, (World.cell?_of_block (hs b ha)).trans c0, (World.cell?_of_block (hs b ha)).trans c1, (World.cell?_of_block (hs b ha)).trans c2, (World.cell?_of_block (hs b ha)).trans c3, (World.cell?_of_block (hs b ha)).trans c4⟩
theorem EnvIn.reads {w : World} {n lo hi : Nat} {v : Value} {es : List (ByteArray × Ty)} (h : EnvIn w n lo hi v es) : ∃ av capv, v = .slice av es.length capv ∧ EnvR (fun b => lo ≤ b ∧ b < hi) w n av es := by
 obtain ⟨b, cap, e, hlo, hhi, _, L, hL, hm, h5⟩ := h
 refine ⟨_, cap, e, fun j hj => ?_⟩
 obtain ⟨hs, cs, h1, h0, h2⟩ := h5 j hj
 have l1 := hL j (by omega)
 have l2 := hL (j + 1) (by omega)
 have hr := h1.reads.sub (A' := fun b => lo ≤ b ∧ b < hi) fun x hx => ⟨by omega, by omega⟩
 have hlen := h1.len
 match cs, hlen with
 | [x0, x1, x2, x3], _ =>
  refine ⟨b, 0, x0, x1, x2, x3, rfl, ⟨hlo, hhi⟩, hs, hr, ?_, ?_, ?_, ?_, ?_⟩
  ·rw [Nat.zero_add]; exact h0
  ·have := h2 0 x0 rfl; rw [Nat.zero_add]; exact this
  ·have := h2 1 x1 rfl; rw [Nat.zero_add]; exact this
  ·have := h2 2 x2 rfl; rw [Nat.zero_add]; exact this
  ·have := h2 3 x3 rfl; rw [Nat.zero_add]; exact this
theorem TyR.shape {A : Nat → Prop} {w : World} {n : Nat} {cs : List Value} {t : Ty} (h : TyR A w n cs t) : ∃ an ln cn ak lk ck, cs = [.int .i64 t.kind, .string t.name, .slice an ln cn, .slice ak lk ck] := h.at.shape
theorem block5N {W : World} {b : Nat} {x0 x1 x2 x3 x4 : Value} (h : W.heap[b]? = some (.cells #[x0, x1, x2, x3, x4] 75 (0, 0))) : (W.cell? ⟨b, 0, none⟩ = some x0 ∧ W.cell? ⟨b, 1, none⟩ = some x1 ∧ W.cell? ⟨b, 2, none⟩ = some x2 ∧ W.cell? ⟨b, 3, none⟩ = some x3 ∧ W.cell? ⟨b, 4, none⟩ = some x4) ∧ ∀ j, W.frozen? ⟨b, j, none⟩ = false := by
 refine ⟨⟨?_, ?_, ?_, ?_, ?_⟩, fun j => frozen_of_row W b j _ _ h⟩
 ·rw [cell_of_row W b 0 _ _ (0, 0) h]; rfl
 ·rw [cell_of_row W b 1 _ _ (0, 0) h]; rfl
 ·rw [cell_of_row W b 2 _ _ (0, 0) h]; rfl
 ·rw [cell_of_row W b 3 _ _ (0, 0) h]; rfl
 ·rw [cell_of_row W b 4 _ _ (0, 0) h]; rfl
end Go.Proofs.YtbojmbeopnlmiaaGreatDoor
namespace Go.Proofs.YtbojmbeopnlmiaaGreatDoor
open Go.RowKit Go.Shelf
def bookC (B : Nat) : MkC := ⟨B, B + 3, B, B + 1, B + 2⟩
set_option maxHeartbeats 1600000 in
set_option maxRecDepth 100000 in
theorem implNewBookM (n : Nat) (v : Value) (es : List (ByteArray × Ty)) (w : World) (hrow : EnvAt w n v es) (hlen : es.length ≤ 1048576) :
  Calls Tryz.prog 104 #[v] w fun e w' => ∃ (M : Nat) (D : List (ByteArray × Value)) (B : Nat), e = .returned (.agg #[v, .map (some M), .pointer (some ⟨B + 3, 0, none⟩)]) ∧ SMap w' M D ∧ BookD es es.length D ∧ w.heap.size ≤ M ∧ M < B ∧ w.heap.size ≤ B ∧ MkAt (bookC B) w' newM ∧ Below w.heap.size w w' := by
 have hB1 : Below w.heap.size w (w.alloc (.cells #[.slice none 0 0, .map none, .pointer none] 144)) := (Below.refl _ _).alloc (Nat.le_refl _) _
 have hR1 : (w.alloc (.cells #[.slice none 0 0, .map none, .pointer none] 144)).heap[w.heap.size]? = some (.cells #[.slice none 0 0, .map none, .pointer none] 144 (0, 0)) := (MapKept.heap_alloc w _).1
 have HF : Hid (type_of% (implFirst n v es _ (hrow.below hB1) hlen)) := implFirst n v es _ (hrow.below hB1) hlen
 obtain ⟨av, capv, rfl, _⟩ := envOpen hrow
 have hzW : (w.alloc (.cells #[.slice none 0 0, .map none, .pointer none] 144)).heap.size = w.heap.size + 1 := by simp
 clear hrow
 go_enter Tryz.func104, Tryz.ntmps104
 go_wp2_with fail
 refine HF.out.mono ?_
 rintro e w2 ⟨M, D, rfl, hS, hD, hM, hb2⟩
 have HN : Hid (type_of% (implNewMaker w2)) := implNewMaker w2
 have hb3 := newMk_below w2
 have hz3 := newMk_size w2
 have h1 := (hb2.block w.heap.size (by omega)).trans hR1
 have hw1 : w.heap.size < w2.heap.size := (Array.getElem?_eq_some_iff.1 h1).1
 have h3 : (newMk w2).heap[w.heap.size]? = _ := (hb3.block w.heap.size hw1).trans h1
 have HMK : Hid (MkAt (bookC w2.heap.size) (newMk w2) newM) := newMk_at w2
 have HLT : Hid (M < w2.heap.size) := hS.lt
 have HEND : Hid (BookD es es.length D ∧ SMap (newMk w2) M D ∧ Below w.heap.size w (newMk w2)) := ⟨hD, hS.same (hb3.block M hS.lt), (hB1.trans (hb2.mono hB1.size)).trans (hb3.mono (by omega))⟩
 have hMw : w.heap.size + 1 ≤ M := by omega
 clear HF hS hD hb2 hR1 hB1 hM hzW h1
 go_wp2_with fail
 refine HN.out.mono ?_
 rintro e w3 ⟨rfl, rfl⟩
 generalize newMk w2 = w3 at *
 obtain ⟨_, hfz⟩ := block3B h3
 have hP := put_book h3 (x0 := .slice av es.length capv) (x1 := .map (some M)) (x2 := .pointer (some ⟨w2.heap.size + 3, 0, none⟩))
 obtain ⟨⟨c0, c1, c2⟩, _⟩ := block3B h3
 clear HN hb3 hz3
 go_wp2_with fail
 obtain ⟨r1, r2, r3⟩ := HEND.out
 refine ret_book rfl (block3B hP).1 ⟨M, D, _, rfl, r2.same ?_, r1, by omega, HLT.out, by omega, ?_, ((r3.setCell (Nat.le_refl _) _).setCell (Nat.le_refl _) _).setCell (Nat.le_refl _) _⟩
 ·rw [Below.heap_setCell _ _ _ _ (by simp; omega), Below.heap_setCell _ _ _ _ (by simp; omega), Below.heap_setCell _ _ _ _ (by simp; omega)]
 ·refine HMK.out.same (fun b hb => ?_) (fun b hb => hb.elim) (by simp)
  have hbB : w2.heap.size ≤ b := hb.1
  rw [Below.heap_setCell _ _ _ _ (by simp; omega), Below.heap_setCell _ _ _ _ (by simp; omega), Below.heap_setCell _ _ _ _ (by simp; omega)]
theorem keep_row {C : MkC} {w w' : World} {b : Nat} {cs : Array Value} {T : TypeId} (hf : MkF C w w') (h : w.heap[b]? = some (.cells cs T (0, 0))) (hT : ¬ mkT T) : w'.heap[b]? = some (.cells cs T (0, 0)) := by
 refine (hf.old b (Array.getElem?_eq_some_iff.1 h).1 fun hm => ?_).trans h
 rcases hm.2 with ⟨es, clk, e, _⟩ | ⟨c, T', fz, e, hm⟩
 ·rw [h] at e; simp at e
 ·rw [h] at e
  simp only [Option.some.injEq, Obj.cells.injEq] at e
  rw [← e.2.1] at hm
  exact hT hm
theorem not_mk_book : ¬ mkT 144 := by unfold mkT; decide
theorem not_mk_named : ¬ mkT 75 := by unfold mkT; decide
theorem not_mk_string : ¬ mkT 9 := by unfold mkT; decide
structure BkAt (B : Nat) (A : Nat → Prop) (W wr : World) (M1 : Mk) (v : Value) (zs : List ByteArray) (k : Nat) : Prop where
 st : Step (bookC B) newM M1 W wr A
 len : M1.F.length ≤ k * 1048577
 row : wr.ownsRow W.heap.size 9 1 v zs.length (strV zs)
 out : ∀ g, v.ownBlock = some g → ¬ M1.ext g
set_option maxHeartbeats 3200000 in
set_option maxRecDepth 100000 in
open Classical in
theorem implBookOk (n : Nat) (av : Option Addr) (capv Mp B : Nat) (es : List (ByteArray × Ty)) (A : Nat → Prop) (w : World) (hrow : EnvR A w n av es) (hb : envBulk n es ≤ 1048576) (hM : MkAt (bookC B) w newM) (hA : ∀ b, A b → b < B) (hE : ExtOk (bookC B) w A) (hT : MkTab (bookC B) w) :
  Calls Tryz.prog 105 #[.agg #[.slice av es.length capv, .map (some Mp), .pointer (some ⟨B + 3, 0, none⟩)]] w fun e w' => e = .returned (.bool (decide (EnvRight n es))) ∧ Below B w w' := by
 obtain ⟨i0, hi0, hz0, hz1, hz2⟩ := info_parts Tryz.infoString
 have hlen : es.length ≤ 1048576 := by unfold envBulk at hb; omega
 obtain ⟨RR, hRR⟩ : ∃ RR, RR = decide (EnvRight n es) := ⟨_, rfl⟩
 rw [← hRR]
 have HNO : Hid (¬ EnvRight n es → RR = false) := fun h => by rw [hRR]; exact decide_eq_false h
 have HYES : Hid (EnvRight n es → RR = true) := fun h => by rw [hRR]; exact decide_eq_true h
 have hBw : B ≤ w.heap.size := hM.base
 have hal : Below w.heap.size w (w.alloc (.cells #[.slice av es.length capv, .map (some Mp), .pointer (some ⟨B + 3, 0, none⟩)] 144)) := (Below.refl _ _).alloc (Nat.le_refl _) _
 have hbox : (w.alloc (.cells #[.slice av es.length capv, .map (some Mp), .pointer (some ⟨B + 3, 0, none⟩)] 144)).heap[w.heap.size]? = some (.cells #[.slice av es.length capv, .map (some Mp), .pointer (some ⟨B + 3, 0, none⟩)] 144 (0, 0)) := (MapKept.heap_alloc w _).1
 have hst0 : Step (bookC B) newM newM (w.alloc (.cells #[.slice av es.length capv, .map (some Mp), .pointer (some ⟨B + 3, 0, none⟩)] 144)) (w.alloc (.cells #[.slice av es.length capv, .map (some Mp), .pointer (some ⟨B + 3, 0, none⟩)] 144)) A := Step.refl (hM.below hal) A
 have hE0 : ExtOk (bookC B) (w.alloc (.cells #[.slice av es.length capv, .map (some Mp), .pointer (some ⟨B + 3, 0, none⟩)] 144)) A := hE.step (MkF.ofBelow hal)
 have hT0 : MkTab (bookC B) (w.alloc (.cells #[.slice av es.length capv, .map (some Mp), .pointer (some ⟨B + 3, 0, none⟩)] 144)) := hT.step (MkF.ofBelow hal) hM.base
 have hR0 : EnvR A (w.alloc (.cells #[.slice av es.length capv, .map (some Mp), .pointer (some ⟨B + 3, 0, none⟩)] 144)) n av es := hrow.same (hE.sameF (MkF.ofBelow hal))
 have HWW : Hid (∀ wx, MkF (bookC B) (w.alloc (.cells #[.slice av es.length capv, .map (some Mp), .pointer (some ⟨B + 3, 0, none⟩)] 144)) wx → Below B w wx) := fun wx hx => (hal.mono hBw).trans (hx.below (by show B ≤ _; simp; omega))
 have HB : Hid (type_of% hb) := hb
 clear hRR hrow hb hM hE hT
 by_cases h60 : es.length ≤ 60
 ·have h60i : ¬ (60 : Int) < (es.length : Int) := by omega
  go_enter Tryz.func105, Tryz.ntmps105
  go_wp2_with fail
  generalize w.alloc (.cells #[.slice av es.length capv, .map (some Mp), .pointer (some ⟨B + 3, 0, none⟩)] 144) = W at *
  have hbxl : w.heap.size < W.heap.size := (Array.getElem?_eq_some_iff.1 hbox).1
  obtain ⟨⟨bx0, bx1, bx2⟩, _⟩ := block3B hbox
  go_wp2_with fail
  go_loopw [3, 13] (fun v i wr => ∃ (k : Nat) (zs : List ByteArray) (M1 : Mk), k ≤ es.length ∧ i = .int .i64 k ∧ zs.length = k ∧ zs = (es.take k).map (·.1) ∧ (∀ j (h : j < es.length), j < k → dottedP es[j].1 = true ∧ Right n es[j].2 12) ∧ BkAt B A W wr M1 v zs k) (fun _ i _ => es.length - (intOf i).toNat)
  case atStart => exact ⟨0, [], newM, Nat.zero_le _, rfl, rfl, rfl, fun j _ h => absurd h (by omega), ⟨hst0, by simp [newM], World.ownsRow_nil _ _ _ _, fun g hg => by simp [Value.ownBlock] at hg⟩⟩
  case round =>
   obtain ⟨k, zs, M1, hk, rfl, hzl, hzs, hall, hat⟩ := hrel
   obtain ⟨wo, rfl⟩ : ∃ wo, wo = wr := ⟨_, rfl⟩
   have HZ : Hid (zs = (es.take k).map (·.1)) := hzs
   have HZL : Hid (zs.length = k) := hzl
   have HALL : Hid (type_of% hall) := hall
   have hzk : zs.length ≤ k := by omega
   obtain ⟨az, capz, hv⟩ := slice_own2 hat.row
   have HAT : Hid (type_of% hat) := hat
   subst hv
   have hbxo := keep_row hat.st.fr hbox not_mk_book
   obtain ⟨⟨ox0, ox1, ox2⟩, _⟩ := block3B hbxo
   clear hzs hzl hall bx0 bx1 bx2
   by_cases hlt : k < es.length
   ·obtain ⟨b, off, x0, x1, x2, x3, rfl, hAb, hsz, hty, c0, c1, c2, c3, c4⟩ := hR0.same (hE0.sameF hat.st.fr) k hlt
    obtain ⟨an2, ln2, cn2, ak2, lk2, ck2, ee⟩ := hty.shape
    simp only [List.cons.injEq, and_true] at ee
    obtain ⟨rfl, rfl, rfl, rfl⟩ := ee
    have hbk := env_bulk n es k hlt
    have hB := HB.out
    -- the box of the name and its type
    have hW1 : Below wo.heap.size wo (wo.alloc (.cells #[.string es[k].1, .int .i64 es[k].2.kind, .string es[k].2.name, .slice an2 ln2 cn2, .slice ak2 lk2 ck2] 75)) := (Below.refl _ _).alloc (Nat.le_refl _) _
    have hN1 : (wo.alloc (.cells #[.string es[k].1, .int .i64 es[k].2.kind, .string es[k].2.name, .slice an2 ln2 cn2, .slice ak2 lk2 ck2] 75)).heap[wo.heap.size]? = some (.cells #[.string es[k].1, .int .i64 es[k].2.kind, .string es[k].2.name, .slice an2 ln2 cn2, .slice ak2 lk2 ck2] 75 (0, 0)) := (MapKept.heap_alloc wo _).1
    have hBx1 : (wo.alloc (.cells #[.string es[k].1, .int .i64 es[k].2.kind, .string es[k].2.name, .slice an2 ln2 cn2, .slice ak2 lk2 ck2] 75)).heap[w.heap.size]? = _ := (hW1.block w.heap.size (Array.getElem?_eq_some_iff.1 hbxo).1).trans hbxo
    have hat1 : Step (bookC B) newM M1 W (wo.alloc (.cells #[.string es[k].1, .int .i64 es[k].2.kind, .string es[k].2.name, .slice an2 ln2 cn2, .slice ak2 lk2 ck2] 75)) A := hat.st.below hW1
    have how1 := hat.row.alloc (.cells #[.string es[k].1, .int .i64 es[k].2.kind, .string es[k].2.name, .slice an2 ln2 cn2, .slice ak2 lk2 ck2] 75)
    have HIK : Hid (∀ wx, Below (wo.alloc (.cells #[.string es[k].1, .int .i64 es[k].2.kind, .string es[k].2.name, .slice an2 ln2 cn2, .slice ak2 lk2 ck2] 75)).heap.size (wo.alloc (.cells #[.string es[k].1, .int .i64 es[k].2.kind, .string es[k].2.name, .slice an2 ln2 cn2, .slice ak2 lk2 ck2] 75)) wx → Calls Tryz.prog 41 #[.pointer (some ⟨B + 3, 0, none⟩), .agg #[.int .i64 es[k].2.kind, .string es[k].2.name, .slice an2 ln2 cn2, .slice ak2 lk2 ck2]] wx fun e w' => ∃ M2, e = .returned (.bool (decide (Right n es[k].2 12))) ∧ Step (bookC B) M1 M2 wx w' A ∧ M2.F.length ≤ (k + 1) * 1048577) := fun wx hx => by
     have hs1 := hat1.below hx
     refine (implMkOk n (bookC B) M1 A _ _ _ _ es[k].2 wx hs1.here (hE0.step hs1.fr) (hT0.step hs1.fr hst0.here.base) (hty.same ((hE0.step hat.st.fr).sameF ((MkF.ofBelow hW1).trans (MkF.ofBelow hx)))) (by omega) (by have := hat.len; omega)).mono ?_
     rintro e w' ⟨M2, rfl, h1, h2⟩
     exact ⟨M2, rfl, h1, by have := hat.len; omega⟩
    have hTab := hT0.step hat1.fr hst0.here.base
    have HND : Hid (Calls Tryz.prog 120 #[.string es[k].1] (wo.alloc (.cells #[.string es[k].1, .int .i64 es[k].2.kind, .string es[k].2.name, .slice an2 ln2 cn2, .slice ak2 lk2 ck2] 75)) fun e w' => e = .returned (.bool (dottedP es[k].1)) ∧ Below (wo.alloc (.cells #[.string es[k].1, .int .i64 es[k].2.kind, .string es[k].2.name, .slice an2 ln2 cn2, .slice ak2 lk2 ck2] 75)).heap.size (wo.alloc (.cells #[.string es[k].1, .int .i64 es[k].2.kind, .string es[k].2.name, .slice an2 ln2 cn2, .slice ak2 lk2 ck2] 75)) w') := implTypeNameOk _ _ (by omega) hTab.cls hTab.cls.lt
    have hk0i : (0 : Int) ≤ (k : Int) := by omega
    have hk1i : (k : Int) < (es.length : Int) := by omega
    have HST1 : Hid (type_of% hat1) := hat1
    have HZ2 : Hid (zs ++ [es[k].1] = (es.take (k + 1)).map (·.1)) := by
     show _ = _
     rw [List.take_succ_eq_append_getElem hlt, List.map_append, HZ.out]; rfl
    have HA2 : Hid (dottedP es[k].1 = true → Right n es[k].2 12 → ∀ j (h : j < es.length), j < k + 1 → dottedP es[j].1 = true ∧ Right n es[j].2 12) := fun h1 h2 j hj hjk => by
     by_cases c : j = k
     ·subst c; exact ⟨h1, h2⟩
     ·exact HALL.out j hj (by omega)
    have HN2 : Hid (¬ (dottedP es[k].1 = true ∧ Right n es[k].2 12) → RR = false) := fun h => HNO.out fun q => h ⟨(q.1 k hlt).1, (q.1 k hlt).2.1⟩
    clear hty hsz hbk hB HNO HYES HALL HB HZ hat hat1 hE0 hT0 hR0 hst0 hTab hbxo hbox hW1
    go_wp2_with fail
    generalize hWN : wo.alloc (.cells #[.string es[k].1, .int .i64 es[k].2.kind, .string es[k].2.name, .slice an2 ln2 cn2, .slice ak2 lk2 ck2] 75) = WN at *
    clear hWN
    generalize es[k].1 = x at *
    generalize es[k].2.kind = kd at *
    generalize es[k].2.name = tn at *
    generalize hRt : Right n es[k].2 12 = Rt at *
    obtain ⟨⟨d0, d1, d2, d3, d4⟩, _⟩ := block5N hN1
    refine HND.out.mono ?_
    rintro e w2 ⟨rfl, hb2⟩
    have hN2 := (hb2.block wo.heap.size (Array.getElem?_eq_some_iff.1 hN1).1).trans hN1
    have hB2 := (hb2.block w.heap.size (Array.getElem?_eq_some_iff.1 hBx1).1).trans hBx1
    have hC2 := HIK.out w2 hb2
    have how2 := kept_belowT how1 hb2
    have HST2 : Hid (Step (bookC B) newM M1 W w2 A) := HST1.out.below hb2
    have HC2 : Hid (type_of% hC2) := hC2
    clear HIK HND HST1 d0 d1 d2 d3 d4 how1 hN1 hBx1 hb2 hC2 c0 c1 c2 c3 c4 ox0 ox1 ox2
    obtain ⟨⟨d0, d1, d2, d3, d4⟩, _⟩ := block5N hN2
    obtain ⟨⟨ox0, ox1, ox2⟩, _⟩ := block3B hB2
    cases hdp : dottedP x with
    | false =>
     have HR : Hid (RR = false) := HN2.out fun h => by rw [hdp] at h; cases h.1
     have HF2 : Hid (Below B w w2) := HWW.out _ HST2.out.fr
     clear HN2 HA2 HZ2 HC2 HWW
     go_wp2_with fail
     go_ret
     exact ⟨by rw [HR.out]; rfl, HF2.out⟩
    | true =>
     go_wp2_with fail
     refine HC2.out.mono ?_
     rintro e w3 ⟨M2, rfl, hs3, hl3⟩
     have hN3 := keep_row hs3.fr hN2 not_mk_named
     have how3 := hs3.fr.owns how2 not_mk_string
     have HST3 : Hid (Step (bookC B) newM M2 W w3 A) := HST2.out.trans hs3
     have HNX : Hid (∀ g, (Value.slice az zs.length capz).ownBlock = some g → ¬ M2.ext g) := fun g hg hx => by
      have hg2 := how2.lt g hg
      rcases hs3.extR g hx with q | q | q
      ·exact HAT.out.out g hg q
      ·have := hA g q
       omega
      ·omega
     have HL3 : Hid (type_of% hl3) := hl3
     clear HC2 HST2 hs3 hl3 how2 hN2 d0 d1 d2 d3 d4
     obtain ⟨⟨d0, d1, d2, d3, d4⟩, _⟩ := block5N hN3
     by_cases hr : Rt
     ·rw [decide_eq_true hr]
      have hz3 : W.heap.size ≤ w3.heap.size := HST3.out.fr.size
      go_wp2_with (at_builtin; refine wpList_append_own_at _ rfl _ _ 22 rfl W.heap.size 9 i0 (.string ⟨#[]⟩) 1 16 Tryz.underlying22 hi0 hz0 hz1 hz2 rfl (by decide) _ _ _ rfl (how3.alloc _) ⟨w3.heap.size, 0, none⟩ 1 1 [.string x] rfl rfl ?c1 ?c2 ?c3 ?c4 ?c5 ?_)
      case c1 => exact one_cellK (cellNew 0 rfl)
      case c2 => intro u hu; simp at hu; subst hu; rfl
      case c3 => unfold maxLen; omega
      case c4 => omega
      case c5 => simp; omega
      intro v' w4 hown' hgrow _ hloc
      have hs4 : Step (bookC B) newM M2 W w4 A := (HST3.out.alloc _).grown (how3.alloc _) not_mk_string HNX.out hgrow (Nat.le_refl _)
      have R1 : w4.ownsRow W.heap.size 9 1 v' (zs ++ [x]).length (strV (zs ++ [x])) := by simpa [strV] using hown'
      have HNX4 : Hid (∀ g, v'.ownBlock = some g → ¬ M2.ext g) := fun g hg hx => by
       rcases hloc with q | q
       ·exact HNX.out g (q ▸ hg) hx
       ·have h1 := (HST3.out.here.extok g hx).1
        rw [hg] at q
        simp at q
        omega
      have HZL2 : Hid ((zs ++ [x]).length = k + 1) := by show _ = _; rw [List.length_append, List.length_singleton, HZL.out]
      have HE4 : Hid (BkAt B A W w4 M2 v' (zs ++ [x]) (k + 1)) := ⟨hs4, HL3.out, R1, HNX4.out⟩
      have HA3 : Hid (type_of% (HA2.out hdp hr)) := HA2.out hdp hr
      clear hown' hgrow how3 hs4 R1 HNX4 HNX HST3 HL3 d0 d1 d2 d3 d4 hN3 hB2 ox0 ox1 ox2
      go_wp2_with fail
      go_roundw
      case rel => exact ⟨k + 1, zs ++ [x], M2, by omega, by go_num, HZL2.out, HZ2.out, HA3.out, HE4.out⟩
      case measure => simp [intOf]; omega
     ·rw [decide_eq_false hr]
      have HR : Hid (RR = false) := HN2.out fun h => hr h.2
      have HF2 : Hid (Below B w w3) := HWW.out _ HST3.out.fr
      clear HN2 HA2 HZ2 HWW HST3 HNX HL3
      go_wp2_with fail
      go_ret
      exact ⟨by rw [HR.out]; rfl, HF2.out⟩
   ·have hke : k = es.length := by omega
    have hzE : zs = es.map (·.1) := by rw [HZ.out, hke, List.take_of_length_le (Nat.le_refl _)]
    have HAS := implAscends _ zs wo (NamesIn.texts (lo := W.heap.size) (hi := wo.heap.size) ⟨hat.row, fun g hg => (hat.row.lt g hg).2⟩) (by omega)
    have HR : Hid (decide (Ascend zs) = RR) := by
     show _ = _
     by_cases ha : Ascend zs
     ·rw [decide_eq_true ha, HYES.out]
      refine ⟨fun j h => ⟨(HALL.out j h (by omega)).1, (HALL.out j h (by omega)).2, fun h0 => ?_⟩, h60⟩
      have hj : j < zs.length := by rw [hzE, List.length_map]; exact h
      have := ha j hj h0
      simpa [hzE] using this
     ·rw [decide_eq_false ha, HNO.out]
      intro hE
      refine ha fun i hi h0 => ?_
      have hi2 : i < es.length := by rw [hzE, List.length_map] at hi; exact hi
      have := (hE.1 i hi2).2.2 h0
      simpa [hzE] using this
    rw [HR.out] at HAS
    have HAS2 : Hid (type_of% HAS) := HAS
    have HF2 : Hid (∀ wx, Below wo.heap.size wo wx → Below B w wx) := fun wx hx => HWW.out _ (hat.st.fr.trans (MkF.ofBelow hx))
    clear HNO HYES HALL HB HZ HAS hzE hat hE0 hT0 hR0 hst0 hbxo hbox HWW
    go_wp2_with fail
    refine HAS2.out.mono ?_
    rintro e w2 ⟨rfl, hb2⟩
    go_wp2_with fail
    go_ret
    exact ⟨rfl, HF2.out _ hb2⟩
 ·have HR : Hid (RR = false) := HNO.out fun h => h60 h.2
  have h60i : (60 : Int) < (es.length : Int) := by omega
  have HW2 : Hid (type_of% (HWW.out _ (MkF.refl _ _))) := HWW.out _ (MkF.refl _ _)
  clear HNO HYES hst0 hE0 hT0 hR0 HB hbox HWW
  go_enter Tryz.func105, Tryz.ntmps105
  go_wp2_with fail
  go_ret
  exact ⟨by rw [HR.out]; rfl, HW2.out⟩
set_option maxHeartbeats 1600000 in
set_option maxRecDepth 100000 in
open Classical in
theorem implEnvOk (n lo hi : Nat) (v : Value) (es : List (ByteArray × Ty)) (w : World) (hin : EnvIn w n lo hi v es) (hhi : hi ≤ w.heap.size) (hb : envBulk n es ≤ 1048576) (hc : ClsIs w) (hp : Lib.TabIs Tryz.prog w "internal/strconv.uint64pow10" .u64 Lib.pow10Tab) :
  Calls Tryz.prog 78 #[v] w fun e w' => e = .returned (.bool (decide (EnvRight n es))) ∧ Below w.heap.size w w' := by
 have hlen : es.length ≤ 1048576 := by unfold envBulk at hb; omega
 have HN := implNewBookM n v es w hin.at hlen
 obtain ⟨av, capv, rfl, hR⟩ := hin.reads
 have HN2 : Hid (type_of% HN) := HN
 have HO : Hid (∀ (Mp B : Nat) (wx : World), w.heap.size ≤ B → MkAt (bookC B) wx newM → Below w.heap.size w wx → Calls Tryz.prog 105 #[.agg #[.slice av es.length capv, .map (some Mp), .pointer (some ⟨B + 3, 0, none⟩)]] wx fun e w' => e = .returned (.bool (decide (EnvRight n es))) ∧ Below w.heap.size w w') := fun Mp B wx hB hM hx => by
  have hs : SameOn (fun b => lo ≤ b ∧ b < hi) w wx := fun b hb' => hx.block b (by omega)
  have hE : ExtOk (bookC B) wx (fun b => lo ≤ b ∧ b < hi) := fun b hb' => ⟨by have := hx.size; omega, .inl (by show b < B; omega)⟩
  have hTab : MkTab (bookC B) wx := ⟨hc.below hx hc.lt, Nat.lt_of_lt_of_le hc.lt hB, fun w' hw' => Lib.tabBelow_of_tabIs hp w' (hx.trans (hw'.mono hB))⟩
  refine (implBookOk n av capv Mp B es _ wx (hR.same hs) hb hM (fun b hb' => by omega) hE hTab).mono ?_
  rintro e w' ⟨rfl, h1⟩
  exact ⟨rfl, hx.trans (h1.mono hB)⟩
 clear HN hR hin hc hp hb hhi
 generalize decide (EnvRight n es) = R at *
 go_enter Tryz.func78, Tryz.ntmps78
 go_wp2_with (first
  | (go_at_call 104; refine HN2.out.mono ?_; rintro e w2 ⟨Mp, D, B, rfl, _, _, _, _, hB, hM, hb2⟩)
  | (go_at_call 105; refine (HO.out Mp B _ hB hM hb2).mono ?_; rintro e w3 ⟨rfl, hb3⟩))
 go_ret
 exact ⟨rfl, hb3⟩
end Go.Proofs.YtbojmbeopnlmiaaGreatDoor
