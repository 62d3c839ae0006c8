/-
  The walk of impl.typeOf at forms with kids.
-/
import Derived.Test.YthomlchbgcjcfaaGreatDoorCloneLib
import Derived.Test.YthomlchbgcjcfaaGreatDoorTextL
import Derived.Deep.RegionHeld3
namespace Go.Proofs.YthomlchbgcjcfaaGreatDoor
open Go.RowKit

theorem frozen_sameJ {w w' : World} {b : Nat} (o : Nat) (h : w'.heap[b]? = w.heap[b]?) : w'.frozen? ⟨b, o, none⟩ = w.frozen? ⟨b, o, none⟩ := by simp only [World.frozen?, h]

/-- what typeOf does at that depth -/
def TypeOfAt (n : Nat) : Prop := ∀ (v : Value) (t : Ty) (d : Int) (w : World), FormAt w n v t → Right n t d → Ty.bulk n t ≤ 1048576 →
    Calls Tryz.prog 15 #[v] w fun e w' => ∃ l, e = .returned (.agg (cellsK t l).toArray) ∧ NewLay w.heap.size w' n l t ∧ Below w.heap.size w w'

/-- the same, its cells told -/
theorem TypeOfAt.told {n : Nat} (h : TypeOfAt n) (v : Value) (t : Ty) (d : Int) (w : World) (hf : FormAt w n v t) (hr : Right n t d) (hb : Ty.bulk n t ≤ 1048576) :
    Calls Tryz.prog 15 #[v] w fun e w' => ∃ (an : Option Addr) (ln cn : Nat) (ak : Option Addr) (lk ck : Nat), e = .returned (.agg #[.int .i64 t.kind, .string t.name, .slice an ln cn, .slice ak lk ck]) ∧ (∃ l, cellsK t l = [.int .i64 t.kind, .string t.name, .slice an ln cn, .slice ak lk ck] ∧ NewLay w.heap.size w' n l t) ∧ Below w.heap.size w w' := by
  refine (h v t d w hf hr hb).mono fun e w' hh => ?_
  obtain ⟨l, he, hl, hbl⟩ := hh
  cases n with
  | zero => exact hl.1.elim
  | succ n =>
    obtain ⟨an, cn, e1⟩ := hl.1.1.slice
    obtain ⟨ak, ck, e2⟩ := hl.1.2.2.1.slice
    have e3 : cellsK t l = [.int .i64 t.kind, .string t.name, .slice an t.names.length cn, .slice ak t.kids.length ck] := by unfold cellsK; rw [e1, e2]
    exact ⟨an, _, cn, ak, _, ck, by rw [he, e3], ⟨l, e3, hl⟩, hbl⟩

theorem Tryz.infoTypeT : (Tryz.prog.info? 28).map (fun i => (i.zero, i.size, i.bytes)) = some (some (.agg #[.int .i64 0, .string ⟨#[]⟩, .slice none 0 0, .slice none 0 0]), 4, 72) := by kernel_rfl

theorem step_open {P : Program} {ops : Array Oper} {o : Oper} {a : Act} {w : World} {K : Act → World → Prop} {Q : Exit → Act → World → Prop} {E : Prop} (hg : o.guard = none) (h : Oper.wp P o a w K Q) : if Region.wanted o (yielded ops a.tmps) = true then Oper.wp P o a w K Q else E := by
  have hw : Region.wanted o (yielded ops a.tmps) = true := by simp [Region.wanted, hg]
  rw [if_pos hw]
  exact h

/-- the state of the loop -/
structure Making (w wr : World) (kd : Int) (n : Nat) (vn : Value) (nms : List ByteArray) (ks : List Ty) (k : Nat) (v : Value) (ls : List Lay) : Prop where
  res : wr.heap[w.heap.size]? = some (.cells #[.int .i64 0, .string ⟨#[]⟩, .slice none 0 0, .slice none 0 0] 28 (0, 0))
  box : wr.heap[w.heap.size + 1]? = some (.cells #[.int .i64 kd, .string ⟨#[]⟩, vn, v] 28 (0, 0))
  names : OwnS wr 9 1 vn nms.length (strV nms)
  fresh : ∀ b ∈ blk vn, w.heap.size + 1 + 1 ≤ b
  kids : Kids wr (w.heap.size + 1 + 1) n vn ks k v ls

theorem Making.step {w wr w2 w4 : World} {kd : Int} {n : Nat} {vn : Value} {nms : List ByteArray} {ks : List Ty} {k gg cap : Nat} {v : Value} {ls : List Lay} {l : Lay} {o : Obj} (h : Making w wr kd n vn nms ks k v ls) (hk : k < ks.length)
    (hb2 : Below wr.heap.size wr w2) (hl : NewLay wr.heap.size w2 n l ks[k]) (hg : (w2.alloc o).grownBy w4 v.ownBlock) (hat : v.ownBlock = some gg ∨ gg = w2.heap.size + 1)
    (hown : w4.ownsRow (w.heap.size + 1 + 1) 28 4 (.slice (some ⟨gg, 0, none⟩) (k + 1) cap) (k + 1) (flatK (ks.take k) ls ++ cellsK ks[k] l)) :
    Making w (w4.setCell ⟨w.heap.size + 1, 3, none⟩ (.slice (some ⟨gg, 0, none⟩) (k + 1) cap)) kd n vn nms ks (k + 1) (.slice (some ⟨gg, 0, none⟩) (k + 1) cap) (ls ++ [l]) := by
  have lt1 : w.heap.size + 1 < wr.heap.size := (Array.getElem?_eq_some_iff.1 h.box).1
  have hz2 := hb2.size
  have hvl : ∀ g, v.ownBlock = some g → w.heap.size + 1 + 1 ≤ g := fun g hg => (h.kids.own.lt g hg).1
  have keep : ∀ b, b < wr.heap.size → v.ownBlock ≠ some b → w4.heap[b]? = wr.heap[b]? := fun b hb hne => ((hg.block b (by simp; omega) fun e => hne e.symm).trans ((MapKept.heap_alloc w2 o).2 b (by omega))).trans (hb2.block b hb)
  have hK := h.kids.more hk (by omega) (fun b hb => owns_lt h.names hb) hb2 hl hg hat hown
  have hset : ∀ b, b ≠ w.heap.size + 1 → (w4.setCell ⟨w.heap.size + 1, 3, none⟩ (.slice (some ⟨gg, 0, none⟩) (k + 1) cap)).heap[b]? = w4.heap[b]? := fun b hb => Below.heap_setCell _ _ _ _ (by simpa using hb)
  have hnv : ∀ b ∈ blk vn, v.ownBlock ≠ some b := fun b hb e => by
    by_cases hkp : 0 < k
    · obtain ⟨g0, c0, e0⟩ := slice_ownL (OwnS.of h.kids.own) hkp
      have e' := e
      rw [e0] at e'
      simp only [Value.ownBlock, Option.some.injEq] at e'
      exact (h.kids.new b (List.mem_append_left _ (by rw [e0]; exact (mem_blk hkp).2 e'.symm))).2 hb
    · rw [h.kids.void (by omega)] at e; cases e
  refine ⟨?_, ?_, ?_, h.fresh, ?_⟩
  · rw [hset _ (by omega), keep _ (by omega) fun e => by have := hvl _ e; omega]
    exact h.res
  · have hb : w4.heap[w.heap.size + 1]? = some (.cells #[.int .i64 kd, .string ⟨#[]⟩, vn, v] 28 (0, 0)) := by
      rw [keep _ lt1 fun e => by have := hvl _ e; omega]
      exact h.box
    exact heap_setCell_same w4 (w.heap.size + 1) 3 _ _ (.slice (some ⟨gg, 0, none⟩) (k + 1) cap) hb
  · refine owns_same h.names fun b hb => ?_
    have := h.fresh b hb
    rw [hset b (by omega), keep b (owns_lt h.names hb) (hnv b hb)]
  · refine hK.same ?_ fun b hb => hset b (by have := (hK.new b hb).1; omega)
    exact ownsRow_setCell_other hK.own (by
      intro e
      have h9 := (hK.own.lt _ e).1
      simp at h9
      omega) _

theorem Making.done {w wr : World} {kd : Int} {n : Nat} {vn : Value} {nms : List ByteArray} {ks : List Ty} {v : Value} {ls : List Lay} {x0 x1 x2 x3 : Value} (h : Making w wr kd n vn nms ks ks.length v ls) :
    NewLay w.heap.size ((((wr.setCell ⟨w.heap.size, 0, none⟩ x0).setCell ⟨w.heap.size, 1, none⟩ x1).setCell ⟨w.heap.size, 2, none⟩ x2).setCell ⟨w.heap.size, 3, none⟩ x3) (n + 1) (.mk vn v ls) (.mk kd ⟨#[]⟩ nms ks) := by
  have hl := h.kids.len
  have hown := h.kids.own
  rw [List.take_of_length_le (Nat.le_refl _)] at hown
  have hL : LayAt wr (n + 1) (.mk vn v ls) (.mk kd ⟨#[]⟩ nms ks) := ⟨h.names, hl, OwnS.of hown, h.kids.lay⟩
  have hbl : ∀ b ∈ Lay.blocks (n + 1) (.mk vn v ls), w.heap.size + 1 + 1 ≤ b := fun b hb => by
    rcases List.mem_append.1 hb with hb | hb
    · exact h.fresh b hb
    · exact (h.kids.new b hb).1
  refine ⟨hL.same fun b hb => put_other (by have := hbl b hb; omega), ?_, fun b hb => by have := hbl b hb; omega⟩
  refine List.pairwise_append.2 ⟨?_, h.kids.nodup, fun x hx y hy e => (h.kids.new y hy).2 (e ▸ hx)⟩
  show (blk vn).Nodup
  unfold blk
  split
  · exact List.pairwise_singleton _ _
  · exact List.Pairwise.nil

set_option maxHeartbeats 3200000 in
set_option maxRecDepth 100000 in
theorem implTypeOf5 (n : Nat) (ih : TypeOfAt n) (a an : Option Addr) (c cn : Nat) (nms : List ByteArray) (ks : List Ty) (d : Int) (w : World) (hp : PartsAt w (FormAt w n) (.slice a ks.length c) ks) (hT : Texts w (.slice an nms.length cn) nms) (hr : ∀ q ∈ ks, Right n q d) (hbk : rowBulk n ks ≤ 1048576) (hnl : nms.length ≤ 1048576) (hns : ∀ x ∈ nms, x.size ≤ 1048576) :
    Calls Tryz.prog 15 #[.iface 76 (.agg #[.slice a ks.length c, .slice an nms.length cn])] w fun e w' => ∃ l, e = .returned (.agg (cellsK (.mk 5 ⟨#[]⟩ nms ks) l).toArray) ∧ NewLay w.heap.size w' (n + 1) l (.mk 5 ⟨#[]⟩ nms ks) ∧ Below w.heap.size w w' := by
  obtain ⟨i0, hi0, hz0, hz1, hz2⟩ := info_parts Tryz.infoTypeT
  have hlen : ks.length ≤ 1048576 := by unfold rowBulk at hbk; omega
  obtain ⟨a', c', e', hel⟩ := partsOpen hp
  simp only [Value.slice.injEq, true_and] at e'
  obtain ⟨rfl, rfl⟩ := e'
  have HEL : Hid (∀ k (hk : k < ks.length), ∃ b off T x, a = some ⟨b, off, none⟩ ∧ b < w.heap.size ∧ w.cell? ⟨b, off + k, none⟩ = some (.iface T x) ∧ FormAt w n (.iface T x) ks[k]) := fun k hk => by
    obtain ⟨b, off, u, h1, h2, h3⟩ := hel k hk
    obtain ⟨T, x, rfl⟩ := form_iface h3
    exact ⟨b, off, T, x, h1, World.block_lt_of_cell? w ⟨b, off + k, none⟩ h2, h2, h3⟩
  have HTO : Hid (∀ k (hk : k < ks.length) (v : Value) (wx : World), FormAt wx n v ks[k] → Calls Tryz.prog 15 #[v] wx fun e w' => ∃ (an : Option Addr) (ln cn : Nat) (ak : Option Addr) (lk ck : Nat), e = .returned (.agg #[.int .i64 ks[k].kind, .string ks[k].name, .slice an ln cn, .slice ak lk ck]) ∧ (∃ l, cellsK ks[k] l = [.int .i64 ks[k].kind, .string ks[k].name, .slice an ln cn, .slice ak lk ck] ∧ NewLay wx.heap.size w' n l ks[k]) ∧ Below wx.heap.size wx w') := fun k hk v wx h => ih.told v ks[k] d wx h (hr _ (List.getElem_mem hk)) (by have := kid_bulk n ks k hk; unfold rowBulk at hbk; omega)
  have t0 : ∀ w : World, (Instr.typeAssert (.iface 76 (.agg #[.slice a ks.length c, .slice an nms.length cn])) 41 69 true).run Tryz.prog w = .ok (.tuple #[.agg #[.slice none 0 0], .bool false]) w := fun w => by kernel_rfl
  have t1 : ∀ w : World, (Instr.typeAssert (.iface 76 (.agg #[.slice a ks.length c, .slice an nms.length cn])) 41 70 true).run Tryz.prog w = .ok (.tuple #[.agg #[.slice none 0 0], .bool false]) w := fun w => by kernel_rfl
  have t2 : ∀ w : World, (Instr.typeAssert (.iface 76 (.agg #[.slice a ks.length c, .slice an nms.length cn])) 41 71 true).run Tryz.prog w = .ok (.tuple #[.agg #[.slice none 0 0], .bool false]) w := fun w => by kernel_rfl
  have t3 : ∀ w : World, (Instr.typeAssert (.iface 76 (.agg #[.slice a ks.length c, .slice an nms.length cn])) 41 58 true).run Tryz.prog w = .ok (.tuple #[.agg #[.slice none 0 0], .bool false]) w := fun w => by kernel_rfl
  have t4 : ∀ w : World, (Instr.typeAssert (.iface 76 (.agg #[.slice a ks.length c, .slice an nms.length cn])) 41 73 true).run Tryz.prog w = .ok (.tuple #[.agg #[.slice none 0 0, .string ⟨#[]⟩], .bool false]) w := fun w => by kernel_rfl
  have t5 : ∀ w : World, (Instr.typeAssert (.iface 76 (.agg #[.slice a ks.length c, .slice an nms.length cn])) 41 76 true).run Tryz.prog w = .ok (.tuple #[.agg #[.slice a ks.length c, .slice an nms.length cn], .bool true]) w := fun w => by kernel_rfl
  have hm : ∀ w : World, Sem.run Tryz.prog (method 261 76 (.agg #[.slice a ks.length c, .slice an nms.length cn]) "loop.example/g00276/impl.kids") w = .ok (25, .agg #[.slice a ks.length c]) w := fun w => by kernel_rfl
  have HK1 : Hid (∀ wx : World, Calls Tryz.prog 25 #[.agg #[.slice a ks.length c]] wx fun e w' => e = .returned (.slice a ks.length c) ∧ w' = wx.alloc (.cells #[.slice a ks.length c] 56)) := fun wx => implKids a ks.length c wx
  have HCT : Hid (∀ wx : World, Below w.heap.size w wx → Calls Tryz.prog 32 #[.slice an nms.length cn] wx fun e w' => ∃ (a : Option Addr) (c : Nat), e = .returned (.slice a nms.length c) ∧ w'.ownsRow wx.heap.size 9 1 (.slice a nms.length c) nms.length (strV nms) ∧ Below wx.heap.size wx w') := fun wx hx => implCopyTexts _ nms wx (hT.below hx) (by omega) hns
  have hbw0 : Below w.heap.size w (((w.alloc (.cells #[.int .i64 0, .string ⟨#[]⟩, .slice none 0 0, .slice none 0 0] 28)).alloc (.cells #[.int .i64 5, .string ⟨#[]⟩, .slice none 0 0, .slice none 0 0] 28)).alloc (.cells #[.slice a ks.length c, .slice an nms.length cn] 76)) := (((Below.refl _ _).alloc (Nat.le_refl _) _).alloc (by simp) _).alloc (by simp; omega) _
  clear hp hel hr ih hbk hT hns
  go_enter Tryz.func15, Tryz.ntmps15
  go_wp2_with fail
  refine (HCT.out _ hbw0).mono ?_
  rintro e w1 ⟨ao, co, rfl, ho1, hb1⟩
  have hzw1 : w.heap.size + 1 + 1 + 1 ≤ w1.heap.size := by have := hb1.size; simpa using this
  have hbw : Below w.heap.size w w1 := hbw0.trans (hb1.mono (by simp; omega))
  obtain ⟨r1, t1⟩ := boxes (hb1.mono (by simp))
  obtain ⟨⟨tc0, tc1, tc2, tc3⟩, tf⟩ := block4 t1
  have tf2 := tf 2
  have hfr : ∀ b ∈ blk (.slice ao nms.length co), w.heap.size + 1 + 1 + 1 ≤ b := fun b hb => by
    by_cases hn : 0 < nms.length
    · obtain ⟨g0, c0, e0⟩ := slice_ownL (OwnS.of ho1) hn
      have hlt := (ho1.lt g0 (by rw [e0]; rfl)).1
      rw [e0, mem_blk hn] at hb
      subst hb
      simpa using hlt
    · rw [show nms.length = 0 by omega] at hb
      cases ao <;> simp [blk] at hb
  have t2 := heap_setCell_same w1 (w.heap.size + 1) 2 _ _ (.slice ao nms.length co) t1
  have r2 := (Below.heap_setCell w1 ⟨w.heap.size + 1, 2, none⟩ (.slice ao nms.length co) w.heap.size (by simp)).trans r1
  have hbw2 : Below w.heap.size w (w1.setCell ⟨w.heap.size + 1, 2, none⟩ (.slice ao nms.length co)) := hbw.setCell (by simp) _
  have hn2 : OwnS (w1.setCell ⟨w.heap.size + 1, 2, none⟩ (.slice ao nms.length co)) 9 1 (.slice ao nms.length co) nms.length (strV nms) := owns_same (OwnS.of ho1) fun b hb => Below.heap_setCell _ _ _ _ (by have := hfr b hb; show b ≠ w.heap.size + 1; omega)
  clear hb1 HCT r1 hbw0 ho1
  go_wp2_with fail
  refine (HK1.out _).mono ?_
  rintro e w4 ⟨rfl, rfl⟩
  have hbw3 := hbw2.alloc (by simp; omega) (.cells #[.slice a ks.length c] 56)
  have r3 := ((MapKept.heap_alloc (w1.setCell ⟨w.heap.size + 1, 2, none⟩ (.slice ao nms.length co)) (.cells #[.slice a ks.length c] 56)).2 w.heap.size (by simp; omega)).trans r2
  have t3 := ((MapKept.heap_alloc (w1.setCell ⟨w.heap.size + 1, 2, none⟩ (.slice ao nms.length co)) (.cells #[.slice a ks.length c] 56)).2 (w.heap.size + 1) (by simp; omega)).trans t2
  have hn3 := hn2.below ((Below.refl _ _).alloc (Nat.le_refl _) (.cells #[.slice a ks.length c] 56))
  have hM0 : Making w ((w1.setCell ⟨w.heap.size + 1, 2, none⟩ (.slice ao nms.length co)).alloc (.cells #[.slice a ks.length c] 56)) 5 n (.slice ao nms.length co) nms ks 0 (.slice none 0 0) [] := ⟨r3, t3, hn3, fun b hb => by have := hfr b hb; omega, Kids.nil _ _ _ _ _⟩
  clear r2 t2 t1 hbw2 hbw tc0 tc1 tc2 tc3 tf tf2 HK1 hm r3 t3 hn2 hn3 hfr
  generalize ((w1.setCell ⟨w.heap.size + 1, 2, none⟩ (.slice ao nms.length co)).alloc (.cells #[.slice a ks.length c] 56)) = W at *
  go_wp2_with fail
  go_loopw [58] (fun i wr => ∃ (k : Nat) (v : Value) (ls : List Lay), k ≤ ks.length ∧ i = .int .i64 k ∧ Making w wr 5 n (.slice ao nms.length co) nms ks k v ls ∧ Below w.heap.size w wr) (fun i _ => ks.length - (intOf i).toNat)
  case atStart => exact ⟨0, _, [], Nat.zero_le _, rfl, hM0, hbw3⟩
  case round =>
    obtain ⟨k, v, ls, hk, rfl, hM, hbe⟩ := hrel
    clear hM0 hbw3
    have hz : w.heap.size ≤ wr.heap.size := hbe.size
    have HM : Hid (type_of% hM) := hM
    obtain ⟨⟨tc0, tc1, tc2, tc3⟩, tf⟩ := block4 hM.box
    obtain ⟨⟨rc0, rc1, rc2, rc3⟩, rf⟩ := block4 hM.res
    have lt1 : w.heap.size + 1 < wr.heap.size := (Array.getElem?_eq_some_iff.1 hM.box).1
    have hown := hM.kids.own
    obtain ⟨av, cv, hv⟩ := slice_ownM hown
    subst hv
    have tf3 := tf 3
    have hKL : k ≤ 1048576 := by omega
    have hnT : (Value.slice av k cv).ownBlock ≠ some (w.heap.size + 1) := fun e => by have := (hown.lt _ e).1; omega
    clear hM
    by_cases hlt : k < ks.length
    · obtain ⟨b, off, TT, xx, rfl, hb, c0, hfm⟩ := HEL.out k hlt
      have C0 := (hbe.cell (p := ⟨b, off + k, none⟩) hb).trans c0
      have HC0 : Hid (∀ wx : World, Below wr.heap.size wr wx → Calls Tryz.prog 15 #[.iface TT xx] wx fun e w' => ∃ (an : Option Addr) (ln cn : Nat) (ak : Option Addr) (lk ck : Nat), e = .returned (.agg #[.int .i64 ks[k].kind, .string ks[k].name, .slice an ln cn, .slice ak lk ck]) ∧ (∃ l, cellsK ks[k] l = [.int .i64 ks[k].kind, .string ks[k].name, .slice an ln cn, .slice ak lk ck] ∧ NewLay wx.heap.size w' n l ks[k]) ∧ Below wx.heap.size wx w') := fun wx hx => HTO.out k hlt _ wx (hfm.below (hbe.trans (hx.mono hz)))
      have td3 : wr.drew.cell? ⟨w.heap.size + 1, 3, none⟩ = some (.slice av k cv) := tc3
      have tdf : wr.drew.frozen? ⟨w.heap.size + 1, 3, none⟩ = false := tf3
      clear c0 hfm HEL HTO rc0 rc1 rc2 rc3 rf tf
      go_wp2_with fail
      go_region_law
        (first
          | (refine step_open (by rfl) ?_; go_simp; go_at_call 15; refine (HC0.out _ (by first | exact (Below.refl _ _).drew | exact Below.refl _ _)).mono ?_; rintro e w2 ⟨an, ln, cn, ak, lk, ck, rfl, ⟨l, hcl, hnl⟩, hb2'⟩; have hb2 : Below wr.heap.size wr w2 := (by first | exact hb2' | exact ((Below.refl wr.heap.size wr).drew).trans hb2'); have x3 := (hb2.cell (p := ⟨w.heap.size + 1, 3, none⟩) lt1).trans tc3; have xf := (hb2.frozen (p := ⟨w.heap.size + 1, 3, none⟩) lt1).trans tf3; have lt2 : w.heap.size + 1 < w2.heap.size := Nat.lt_of_lt_of_le lt1 hb2.size; have y3 : ∀ o, (w2.alloc o).cell? ⟨w.heap.size + 1, 3, none⟩ = some (.slice av k cv) := (fun o => (cellOld 3 lt2).trans x3); have yf : ∀ o, (w2.alloc o).frozen? ⟨w.heap.size + 1, 3, none⟩ = false := (fun o => (frozenOld 3 lt2).trans xf); have ho2 := kept_belowT hown hb2)
          | (revert hb2; intro hb2; (refine step_append_lies _ (by rfl) _ _ _ (by rfl) (w.heap.size + 1 + 1) 28 i0 _ 4 72 Tryz.underlying24 hi0 hz0 hz1 hz2 rfl (by omega) (.slice av k cv) k _ (by rfl) (by first | exact (ho2.alloc _) | exact (ho2.alloc _).drew) ⟨w2.heap.size, 0, none⟩ 1 1 [.int .i64 ks[k].kind, .string ks[k].name, .slice an ln cn, .slice ak lk ck] (by rfl) (by rfl) (World.news_of_block (cs := #[.int .i64 ks[k].kind, .string ks[k].name, .slice an ln cn, .slice ak lk ck]) (t := 28) (fr := (0, 0)) (heap_alloc_new w2 _)) (by simp [Value.oneCell']) (by omega) (by unfold maxLen; omega) (by omega) (by have := hb2.size; simp; omega) (w2.heap.size + 1) (by simp) ?_; intro gg cap w4 hown1 hgrow hat hlt4); have hT4 := hgrow.block (w.heap.size + 1) (by simp; omega) (fun e => hnT e.symm); have z3 := cell_same (y3 _) hT4; have zf := (frozen_sameJ 3 hT4).trans (yf _)))
      all_goals
        rw [← hcl] at hown1
        have R1 := HM.out.step hlt hb2 hnl hgrow hat hown1
        have HR1 : Hid (type_of% R1) := R1
        have R2 : Below w.heap.size w (w4.setCell ⟨w.heap.size + 1, 3, none⟩ (.slice (some ⟨gg, 0, none⟩) (k + 1) cap)) := (((hbe.trans (hb2.mono hz)).alloc (by omega) _).grown hgrow (by simp; omega) (fun j hj => by have := (hown.lt j hj).1; omega)).setCell (by simp) _
        clear R1 HM hown hown1 hgrow hnl hcl hb2 hb2' ho2 x3 xf y3 yf z3 zf hT4 td3 tdf HC0
        go_wp2_with fail
        go_roundw
        case rel => exact ⟨k + 1, _, ls ++ [l], by omega, by go_num, HR1.out, R2⟩
        case measure => simp [intOf]; omega
    · have hke : k = ks.length := by omega
      subst hke
      have rf0 := rf 0
      have rf1 := rf 1
      have rf2 := rf 2
      have rf3 := rf 3
      clear tf rf HEL HTO hown
      go_wp2_with fail
      refine ret_put rfl (fun j hj => ?_) ⟨.mk (.slice ao nms.length co) (.slice av ks.length cv) ls, rfl, HM.out.done, put_below hbe (Nat.le_refl _)⟩
      match j, hj with
      | 0, _ => rw [rc0]; rfl
      | 1, _ => rw [rc1]; rfl
      | 2, _ => rw [rc2]; rfl
      | 3, _ => rw [rc3]; rfl

set_option maxHeartbeats 3200000 in
set_option maxRecDepth 100000 in
theorem implTypeOf6 (n : Nat) (ih : TypeOfAt n) (a : Option Addr) (c : Nat) (ks : List Ty) (d : Int) (w : World) (hp : PartsAt w (FormAt w n) (.slice a ks.length c) ks) (hr : ∀ q ∈ ks, Right n q d) (hbk : rowBulk n ks ≤ 1048576) :
    Calls Tryz.prog 15 #[.iface 78 (.agg #[.slice a ks.length c])] w fun e w' => ∃ l, e = .returned (.agg (cellsK (.mk 6 ⟨#[]⟩ [] ks) l).toArray) ∧ NewLay w.heap.size w' (n + 1) l (.mk 6 ⟨#[]⟩ [] ks) ∧ Below w.heap.size w w' := by
  obtain ⟨i0, hi0, hz0, hz1, hz2⟩ := info_parts Tryz.infoTypeT
  have hlen : ks.length ≤ 1048576 := by unfold rowBulk at hbk; omega
  obtain ⟨a', c', e', hel⟩ := partsOpen hp
  simp only [Value.slice.injEq, true_and] at e'
  obtain ⟨rfl, rfl⟩ := e'
  have HEL : Hid (∀ k (hk : k < ks.length), ∃ b off T x, a = some ⟨b, off, none⟩ ∧ b < w.heap.size ∧ w.cell? ⟨b, off + k, none⟩ = some (.iface T x) ∧ FormAt w n (.iface T x) ks[k]) := fun k hk => by
    obtain ⟨b, off, u, h1, h2, h3⟩ := hel k hk
    obtain ⟨T, x, rfl⟩ := form_iface h3
    exact ⟨b, off, T, x, h1, World.block_lt_of_cell? w ⟨b, off + k, none⟩ h2, h2, h3⟩
  have HTO : Hid (∀ k (hk : k < ks.length) (v : Value) (wx : World), FormAt wx n v ks[k] → Calls Tryz.prog 15 #[v] wx fun e w' => ∃ (an : Option Addr) (ln cn : Nat) (ak : Option Addr) (lk ck : Nat), e = .returned (.agg #[.int .i64 ks[k].kind, .string ks[k].name, .slice an ln cn, .slice ak lk ck]) ∧ (∃ l, cellsK ks[k] l = [.int .i64 ks[k].kind, .string ks[k].name, .slice an ln cn, .slice ak lk ck] ∧ NewLay wx.heap.size w' n l ks[k]) ∧ Below wx.heap.size wx w') := fun k hk v wx h => ih.told v ks[k] d wx h (hr _ (List.getElem_mem hk)) (by have := kid_bulk n ks k hk; unfold rowBulk at hbk; omega)
  have t0 : ∀ w : World, (Instr.typeAssert (.iface 78 (.agg #[.slice a ks.length c])) 41 69 true).run Tryz.prog w = .ok (.tuple #[.agg #[.slice none 0 0], .bool false]) w := fun w => by kernel_rfl
  have t1 : ∀ w : World, (Instr.typeAssert (.iface 78 (.agg #[.slice a ks.length c])) 41 70 true).run Tryz.prog w = .ok (.tuple #[.agg #[.slice none 0 0], .bool false]) w := fun w => by kernel_rfl
  have t2 : ∀ w : World, (Instr.typeAssert (.iface 78 (.agg #[.slice a ks.length c])) 41 71 true).run Tryz.prog w = .ok (.tuple #[.agg #[.slice none 0 0], .bool false]) w := fun w => by kernel_rfl
  have t3 : ∀ w : World, (Instr.typeAssert (.iface 78 (.agg #[.slice a ks.length c])) 41 58 true).run Tryz.prog w = .ok (.tuple #[.agg #[.slice none 0 0], .bool false]) w := fun w => by kernel_rfl
  have t4 : ∀ w : World, (Instr.typeAssert (.iface 78 (.agg #[.slice a ks.length c])) 41 73 true).run Tryz.prog w = .ok (.tuple #[.agg #[.slice none 0 0, .string ⟨#[]⟩], .bool false]) w := fun w => by kernel_rfl
  have t5 : ∀ w : World, (Instr.typeAssert (.iface 78 (.agg #[.slice a ks.length c])) 41 76 true).run Tryz.prog w = .ok (.tuple #[.agg #[.slice none 0 0, .slice none 0 0], .bool false]) w := fun w => by kernel_rfl
  have t6 : ∀ w : World, (Instr.typeAssert (.iface 78 (.agg #[.slice a ks.length c])) 41 78 true).run Tryz.prog w = .ok (.tuple #[.agg #[.slice a ks.length c], .bool true]) w := fun w => by kernel_rfl
  have hm : ∀ w : World, Sem.run Tryz.prog (method 261 78 (.agg #[.slice a ks.length c]) "loop.example/g00276/impl.kids") w = .ok (25, .agg #[.slice a ks.length c]) w := fun w => by kernel_rfl
  have HK1 : Hid (∀ wx : World, Calls Tryz.prog 25 #[.agg #[.slice a ks.length c]] wx fun e w' => e = .returned (.slice a ks.length c) ∧ w' = wx.alloc (.cells #[.slice a ks.length c] 56)) := fun wx => implKids a ks.length c wx
  clear hp hel hr ih hbk
  go_enter Tryz.func15, Tryz.ntmps15
  go_wp2_with fail
  refine (HK1.out _).mono ?_
  rintro e w1 ⟨rfl, rfl⟩
  have hbw3 : Below w.heap.size w ((((w.alloc (.cells #[.int .i64 0, .string ⟨#[]⟩, .slice none 0 0, .slice none 0 0] 28)).alloc (.cells #[.int .i64 6, .string ⟨#[]⟩, .slice none 0 0, .slice none 0 0] 28)).alloc (.cells #[.slice a ks.length c] 78)).alloc (.cells #[.slice a ks.length c] 56)) := ((((Below.refl _ _).alloc (Nat.le_refl _) _).alloc (by simp) _).alloc (by simp; omega) _).alloc (by simp; omega) _
  obtain ⟨r1, t1⟩ := boxes (w := w) (A := .cells #[.int .i64 0, .string ⟨#[]⟩, .slice none 0 0, .slice none 0 0] 28) (B := .cells #[.int .i64 6, .string ⟨#[]⟩, .slice none 0 0, .slice none 0 0] 28) (C := .cells #[.slice a ks.length c] 78) (W := (((w.alloc (.cells #[.int .i64 0, .string ⟨#[]⟩, .slice none 0 0, .slice none 0 0] 28)).alloc (.cells #[.int .i64 6, .string ⟨#[]⟩, .slice none 0 0, .slice none 0 0] 28)).alloc (.cells #[.slice a ks.length c] 78)).alloc (.cells #[.slice a ks.length c] 56)) ((Below.refl _ _).alloc (by simp) _)
  have hM0 : Making w ((((w.alloc (.cells #[.int .i64 0, .string ⟨#[]⟩, .slice none 0 0, .slice none 0 0] 28)).alloc (.cells #[.int .i64 6, .string ⟨#[]⟩, .slice none 0 0, .slice none 0 0] 28)).alloc (.cells #[.slice a ks.length c] 78)).alloc (.cells #[.slice a ks.length c] 56)) 6 n (.slice none 0 0) [] ks 0 (.slice none 0 0) [] := ⟨r1, t1, .inl ⟨rfl, rfl, none, 0, rfl⟩, fun b hb => by simp [blk] at hb, Kids.nil _ _ _ _ _⟩
  clear HK1 hm r1 t1
  go_wp2_with fail
  go_loopw [58] (fun i wr => ∃ (k : Nat) (v : Value) (ls : List Lay), k ≤ ks.length ∧ i = .int .i64 k ∧ Making w wr 6 n (.slice none 0 0) [] ks k v ls ∧ Below w.heap.size w wr) (fun i _ => ks.length - (intOf i).toNat)
  case atStart => exact ⟨0, _, [], Nat.zero_le _, rfl, hM0, hbw3⟩
  case round =>
    obtain ⟨k, v, ls, hk, rfl, hM, hbe⟩ := hrel
    clear hM0 hbw3
    have hz : w.heap.size ≤ wr.heap.size := hbe.size
    have HM : Hid (type_of% hM) := hM
    obtain ⟨⟨tc0, tc1, tc2, tc3⟩, tf⟩ := block4 hM.box
    obtain ⟨⟨rc0, rc1, rc2, rc3⟩, rf⟩ := block4 hM.res
    have lt1 : w.heap.size + 1 < wr.heap.size := (Array.getElem?_eq_some_iff.1 hM.box).1
    have hown := hM.kids.own
    obtain ⟨av, cv, hv⟩ := slice_ownM hown
    subst hv
    have tf3 := tf 3
    have hKL : k ≤ 1048576 := by omega
    have hnT : (Value.slice av k cv).ownBlock ≠ some (w.heap.size + 1) := fun e => by have := (hown.lt _ e).1; omega
    clear hM
    by_cases hlt : k < ks.length
    · obtain ⟨b, off, TT, xx, rfl, hb, c0, hfm⟩ := HEL.out k hlt
      have C0 := (hbe.cell (p := ⟨b, off + k, none⟩) hb).trans c0
      have HC0 : Hid (∀ wx : World, Below wr.heap.size wr wx → Calls Tryz.prog 15 #[.iface TT xx] wx fun e w' => ∃ (an : Option Addr) (ln cn : Nat) (ak : Option Addr) (lk ck : Nat), e = .returned (.agg #[.int .i64 ks[k].kind, .string ks[k].name, .slice an ln cn, .slice ak lk ck]) ∧ (∃ l, cellsK ks[k] l = [.int .i64 ks[k].kind, .string ks[k].name, .slice an ln cn, .slice ak lk ck] ∧ NewLay wx.heap.size w' n l ks[k]) ∧ Below wx.heap.size wx w') := fun wx hx => HTO.out k hlt _ wx (hfm.below (hbe.trans (hx.mono hz)))
      have td3 : wr.drew.cell? ⟨w.heap.size + 1, 3, none⟩ = some (.slice av k cv) := tc3
      have tdf : wr.drew.frozen? ⟨w.heap.size + 1, 3, none⟩ = false := tf3
      clear c0 hfm HEL HTO rc0 rc1 rc2 rc3 rf tf
      go_wp2_with fail
      go_region_law
        (first
          | (refine step_open (by rfl) ?_; go_simp; go_at_call 15; refine (HC0.out _ (by first | exact (Below.refl _ _).drew | exact Below.refl _ _)).mono ?_; rintro e w2 ⟨an, ln, cn, ak, lk, ck, rfl, ⟨l, hcl, hnl⟩, hb2'⟩; have hb2 : Below wr.heap.size wr w2 := (by first | exact hb2' | exact ((Below.refl wr.heap.size wr).drew).trans hb2'); have x3 := (hb2.cell (p := ⟨w.heap.size + 1, 3, none⟩) lt1).trans tc3; have xf := (hb2.frozen (p := ⟨w.heap.size + 1, 3, none⟩) lt1).trans tf3; have lt2 : w.heap.size + 1 < w2.heap.size := Nat.lt_of_lt_of_le lt1 hb2.size; have y3 : ∀ o, (w2.alloc o).cell? ⟨w.heap.size + 1, 3, none⟩ = some (.slice av k cv) := (fun o => (cellOld 3 lt2).trans x3); have yf : ∀ o, (w2.alloc o).frozen? ⟨w.heap.size + 1, 3, none⟩ = false := (fun o => (frozenOld 3 lt2).trans xf); have ho2 := kept_belowT hown hb2)
          | (revert hb2; intro hb2; (refine step_append_lies _ (by rfl) _ _ _ (by rfl) (w.heap.size + 1 + 1) 28 i0 _ 4 72 Tryz.underlying24 hi0 hz0 hz1 hz2 rfl (by omega) (.slice av k cv) k _ (by rfl) (by first | exact (ho2.alloc _) | exact (ho2.alloc _).drew) ⟨w2.heap.size, 0, none⟩ 1 1 [.int .i64 ks[k].kind, .string ks[k].name, .slice an ln cn, .slice ak lk ck] (by rfl) (by rfl) (World.news_of_block (cs := #[.int .i64 ks[k].kind, .string ks[k].name, .slice an ln cn, .slice ak lk ck]) (t := 28) (fr := (0, 0)) (heap_alloc_new w2 _)) (by simp [Value.oneCell']) (by omega) (by unfold maxLen; omega) (by omega) (by have := hb2.size; simp; omega) (w2.heap.size + 1) (by simp) ?_; intro gg cap w4 hown1 hgrow hat hlt4); have hT4 := hgrow.block (w.heap.size + 1) (by simp; omega) (fun e => hnT e.symm); have z3 := cell_same (y3 _) hT4; have zf := (frozen_sameJ 3 hT4).trans (yf _)))
      all_goals
        rw [← hcl] at hown1
        have R1 := HM.out.step hlt hb2 hnl hgrow hat hown1
        have HR1 : Hid (type_of% R1) := R1
        have R2 : Below w.heap.size w (w4.setCell ⟨w.heap.size + 1, 3, none⟩ (.slice (some ⟨gg, 0, none⟩) (k + 1) cap)) := (((hbe.trans (hb2.mono hz)).alloc (by omega) _).grown hgrow (by simp; omega) (fun j hj => by have := (hown.lt j hj).1; omega)).setCell (by simp) _
        clear R1 HM hown hown1 hgrow hnl hcl hb2 hb2' ho2 x3 xf y3 yf z3 zf hT4 td3 tdf HC0
        go_wp2_with fail
        go_roundw
        case rel => exact ⟨k + 1, _, ls ++ [l], by omega, by go_num, HR1.out, R2⟩
        case measure => simp [intOf]; omega
    · have hke : k = ks.length := by omega
      subst hke
      have rf0 := rf 0
      have rf1 := rf 1
      have rf2 := rf 2
      have rf3 := rf 3
      clear tf rf HEL HTO hown
      go_wp2_with fail
      refine ret_put rfl (fun j hj => ?_) ⟨.mk (.slice none 0 0) (.slice av ks.length cv) ls, rfl, HM.out.done, put_below hbe (Nat.le_refl _)⟩
      match j, hj with
      | 0, _ => rw [rc0]; rfl
      | 1, _ => rw [rc1]; rfl
      | 2, _ => rw [rc2]; rfl
      | 3, _ => rw [rc3]; rfl

set_option maxHeartbeats 3200000 in
set_option maxRecDepth 100000 in
theorem implTypeOf7 (n : Nat) (ih : TypeOfAt n) (a : Option Addr) (c : Nat) (ks : List Ty) (d : Int) (w : World) (hp : PartsAt w (FormAt w n) (.slice a ks.length c) ks) (hr : ∀ q ∈ ks, Right n q d) (hbk : rowBulk n ks ≤ 1048576) :
    Calls Tryz.prog 15 #[.iface 59 (.agg #[.slice a ks.length c])] w fun e w' => ∃ l, e = .returned (.agg (cellsK (.mk 7 ⟨#[]⟩ [] ks) l).toArray) ∧ NewLay w.heap.size w' (n + 1) l (.mk 7 ⟨#[]⟩ [] ks) ∧ Below w.heap.size w w' := by
  obtain ⟨i0, hi0, hz0, hz1, hz2⟩ := info_parts Tryz.infoTypeT
  have hlen : ks.length ≤ 1048576 := by unfold rowBulk at hbk; omega
  obtain ⟨a', c', e', hel⟩ := partsOpen hp
  simp only [Value.slice.injEq, true_and] at e'
  obtain ⟨rfl, rfl⟩ := e'
  have HEL : Hid (∀ k (hk : k < ks.length), ∃ b off T x, a = some ⟨b, off, none⟩ ∧ b < w.heap.size ∧ w.cell? ⟨b, off + k, none⟩ = some (.iface T x) ∧ FormAt w n (.iface T x) ks[k]) := fun k hk => by
    obtain ⟨b, off, u, h1, h2, h3⟩ := hel k hk
    obtain ⟨T, x, rfl⟩ := form_iface h3
    exact ⟨b, off, T, x, h1, World.block_lt_of_cell? w ⟨b, off + k, none⟩ h2, h2, h3⟩
  have HTO : Hid (∀ k (hk : k < ks.length) (v : Value) (wx : World), FormAt wx n v ks[k] → Calls Tryz.prog 15 #[v] wx fun e w' => ∃ (an : Option Addr) (ln cn : Nat) (ak : Option Addr) (lk ck : Nat), e = .returned (.agg #[.int .i64 ks[k].kind, .string ks[k].name, .slice an ln cn, .slice ak lk ck]) ∧ (∃ l, cellsK ks[k] l = [.int .i64 ks[k].kind, .string ks[k].name, .slice an ln cn, .slice ak lk ck] ∧ NewLay wx.heap.size w' n l ks[k]) ∧ Below wx.heap.size wx w') := fun k hk v wx h => ih.told v ks[k] d wx h (hr _ (List.getElem_mem hk)) (by have := kid_bulk n ks k hk; unfold rowBulk at hbk; omega)
  have t0 : ∀ w : World, (Instr.typeAssert (.iface 59 (.agg #[.slice a ks.length c])) 41 69 true).run Tryz.prog w = .ok (.tuple #[.agg #[.slice none 0 0], .bool false]) w := fun w => by kernel_rfl
  have t1 : ∀ w : World, (Instr.typeAssert (.iface 59 (.agg #[.slice a ks.length c])) 41 70 true).run Tryz.prog w = .ok (.tuple #[.agg #[.slice none 0 0], .bool false]) w := fun w => by kernel_rfl
  have t2 : ∀ w : World, (Instr.typeAssert (.iface 59 (.agg #[.slice a ks.length c])) 41 71 true).run Tryz.prog w = .ok (.tuple #[.agg #[.slice none 0 0], .bool false]) w := fun w => by kernel_rfl
  have t3 : ∀ w : World, (Instr.typeAssert (.iface 59 (.agg #[.slice a ks.length c])) 41 58 true).run Tryz.prog w = .ok (.tuple #[.agg #[.slice none 0 0], .bool false]) w := fun w => by kernel_rfl
  have t4 : ∀ w : World, (Instr.typeAssert (.iface 59 (.agg #[.slice a ks.length c])) 41 73 true).run Tryz.prog w = .ok (.tuple #[.agg #[.slice none 0 0, .string ⟨#[]⟩], .bool false]) w := fun w => by kernel_rfl
  have t5 : ∀ w : World, (Instr.typeAssert (.iface 59 (.agg #[.slice a ks.length c])) 41 76 true).run Tryz.prog w = .ok (.tuple #[.agg #[.slice none 0 0, .slice none 0 0], .bool false]) w := fun w => by kernel_rfl
  have t6 : ∀ w : World, (Instr.typeAssert (.iface 59 (.agg #[.slice a ks.length c])) 41 78 true).run Tryz.prog w = .ok (.tuple #[.agg #[.slice none 0 0], .bool false]) w := fun w => by kernel_rfl
  have t7 : ∀ w : World, (Instr.typeAssert (.iface 59 (.agg #[.slice a ks.length c])) 41 59 true).run Tryz.prog w = .ok (.tuple #[.agg #[.slice a ks.length c], .bool true]) w := fun w => by kernel_rfl
  have hm : ∀ w : World, Sem.run Tryz.prog (method 261 59 (.agg #[.slice a ks.length c]) "loop.example/g00276/impl.kids") w = .ok (25, .agg #[.slice a ks.length c]) w := fun w => by kernel_rfl
  have HK1 : Hid (∀ wx : World, Calls Tryz.prog 25 #[.agg #[.slice a ks.length c]] wx fun e w' => e = .returned (.slice a ks.length c) ∧ w' = wx.alloc (.cells #[.slice a ks.length c] 56)) := fun wx => implKids a ks.length c wx
  clear hp hel hr ih hbk
  go_enter Tryz.func15, Tryz.ntmps15
  go_wp2_with fail
  refine (HK1.out _).mono ?_
  rintro e w1 ⟨rfl, rfl⟩
  have hbw3 : Below w.heap.size w ((((w.alloc (.cells #[.int .i64 0, .string ⟨#[]⟩, .slice none 0 0, .slice none 0 0] 28)).alloc (.cells #[.int .i64 7, .string ⟨#[]⟩, .slice none 0 0, .slice none 0 0] 28)).alloc (.cells #[.slice a ks.length c] 59)).alloc (.cells #[.slice a ks.length c] 56)) := ((((Below.refl _ _).alloc (Nat.le_refl _) _).alloc (by simp) _).alloc (by simp; omega) _).alloc (by simp; omega) _
  obtain ⟨r1, t1⟩ := boxes (w := w) (A := .cells #[.int .i64 0, .string ⟨#[]⟩, .slice none 0 0, .slice none 0 0] 28) (B := .cells #[.int .i64 7, .string ⟨#[]⟩, .slice none 0 0, .slice none 0 0] 28) (C := .cells #[.slice a ks.length c] 59) (W := (((w.alloc (.cells #[.int .i64 0, .string ⟨#[]⟩, .slice none 0 0, .slice none 0 0] 28)).alloc (.cells #[.int .i64 7, .string ⟨#[]⟩, .slice none 0 0, .slice none 0 0] 28)).alloc (.cells #[.slice a ks.length c] 59)).alloc (.cells #[.slice a ks.length c] 56)) ((Below.refl _ _).alloc (by simp) _)
  have hM0 : Making w ((((w.alloc (.cells #[.int .i64 0, .string ⟨#[]⟩, .slice none 0 0, .slice none 0 0] 28)).alloc (.cells #[.int .i64 7, .string ⟨#[]⟩, .slice none 0 0, .slice none 0 0] 28)).alloc (.cells #[.slice a ks.length c] 59)).alloc (.cells #[.slice a ks.length c] 56)) 7 n (.slice none 0 0) [] ks 0 (.slice none 0 0) [] := ⟨r1, t1, .inl ⟨rfl, rfl, none, 0, rfl⟩, fun b hb => by simp [blk] at hb, Kids.nil _ _ _ _ _⟩
  clear HK1 hm r1 t1
  go_wp2_with fail
  go_loopw [58] (fun i wr => ∃ (k : Nat) (v : Value) (ls : List Lay), k ≤ ks.length ∧ i = .int .i64 k ∧ Making w wr 7 n (.slice none 0 0) [] ks k v ls ∧ Below w.heap.size w wr) (fun i _ => ks.length - (intOf i).toNat)
  case atStart => exact ⟨0, _, [], Nat.zero_le _, rfl, hM0, hbw3⟩
  case round =>
    obtain ⟨k, v, ls, hk, rfl, hM, hbe⟩ := hrel
    clear hM0 hbw3
    have hz : w.heap.size ≤ wr.heap.size := hbe.size
    have HM : Hid (type_of% hM) := hM
    obtain ⟨⟨tc0, tc1, tc2, tc3⟩, tf⟩ := block4 hM.box
    obtain ⟨⟨rc0, rc1, rc2, rc3⟩, rf⟩ := block4 hM.res
    have lt1 : w.heap.size + 1 < wr.heap.size := (Array.getElem?_eq_some_iff.1 hM.box).1
    have hown := hM.kids.own
    obtain ⟨av, cv, hv⟩ := slice_ownM hown
    subst hv
    have tf3 := tf 3
    have hKL : k ≤ 1048576 := by omega
    have hnT : (Value.slice av k cv).ownBlock ≠ some (w.heap.size + 1) := fun e => by have := (hown.lt _ e).1; omega
    clear hM
    by_cases hlt : k < ks.length
    · obtain ⟨b, off, TT, xx, rfl, hb, c0, hfm⟩ := HEL.out k hlt
      have C0 := (hbe.cell (p := ⟨b, off + k, none⟩) hb).trans c0
      have HC0 : Hid (∀ wx : World, Below wr.heap.size wr wx → Calls Tryz.prog 15 #[.iface TT xx] wx fun e w' => ∃ (an : Option Addr) (ln cn : Nat) (ak : Option Addr) (lk ck : Nat), e = .returned (.agg #[.int .i64 ks[k].kind, .string ks[k].name, .slice an ln cn, .slice ak lk ck]) ∧ (∃ l, cellsK ks[k] l = [.int .i64 ks[k].kind, .string ks[k].name, .slice an ln cn, .slice ak lk ck] ∧ NewLay wx.heap.size w' n l ks[k]) ∧ Below wx.heap.size wx w') := fun wx hx => HTO.out k hlt _ wx (hfm.below (hbe.trans (hx.mono hz)))
      have td3 : wr.drew.cell? ⟨w.heap.size + 1, 3, none⟩ = some (.slice av k cv) := tc3
      have tdf : wr.drew.frozen? ⟨w.heap.size + 1, 3, none⟩ = false := tf3
      clear c0 hfm HEL HTO rc0 rc1 rc2 rc3 rf tf
      go_wp2_with fail
      go_region_law
        (first
          | (refine step_open (by rfl) ?_; go_simp; go_at_call 15; refine (HC0.out _ (by first | exact (Below.refl _ _).drew | exact Below.refl _ _)).mono ?_; rintro e w2 ⟨an, ln, cn, ak, lk, ck, rfl, ⟨l, hcl, hnl⟩, hb2'⟩; have hb2 : Below wr.heap.size wr w2 := (by first | exact hb2' | exact ((Below.refl wr.heap.size wr).drew).trans hb2'); have x3 := (hb2.cell (p := ⟨w.heap.size + 1, 3, none⟩) lt1).trans tc3; have xf := (hb2.frozen (p := ⟨w.heap.size + 1, 3, none⟩) lt1).trans tf3; have lt2 : w.heap.size + 1 < w2.heap.size := Nat.lt_of_lt_of_le lt1 hb2.size; have y3 : ∀ o, (w2.alloc o).cell? ⟨w.heap.size + 1, 3, none⟩ = some (.slice av k cv) := (fun o => (cellOld 3 lt2).trans x3); have yf : ∀ o, (w2.alloc o).frozen? ⟨w.heap.size + 1, 3, none⟩ = false := (fun o => (frozenOld 3 lt2).trans xf); have ho2 := kept_belowT hown hb2)
          | (revert hb2; intro hb2; (refine step_append_lies _ (by rfl) _ _ _ (by rfl) (w.heap.size + 1 + 1) 28 i0 _ 4 72 Tryz.underlying24 hi0 hz0 hz1 hz2 rfl (by omega) (.slice av k cv) k _ (by rfl) (by first | exact (ho2.alloc _) | exact (ho2.alloc _).drew) ⟨w2.heap.size, 0, none⟩ 1 1 [.int .i64 ks[k].kind, .string ks[k].name, .slice an ln cn, .slice ak lk ck] (by rfl) (by rfl) (World.news_of_block (cs := #[.int .i64 ks[k].kind, .string ks[k].name, .slice an ln cn, .slice ak lk ck]) (t := 28) (fr := (0, 0)) (heap_alloc_new w2 _)) (by simp [Value.oneCell']) (by omega) (by unfold maxLen; omega) (by omega) (by have := hb2.size; simp; omega) (w2.heap.size + 1) (by simp) ?_; intro gg cap w4 hown1 hgrow hat hlt4); have hT4 := hgrow.block (w.heap.size + 1) (by simp; omega) (fun e => hnT e.symm); have z3 := cell_same (y3 _) hT4; have zf := (frozen_sameJ 3 hT4).trans (yf _)))
      all_goals
        rw [← hcl] at hown1
        have R1 := HM.out.step hlt hb2 hnl hgrow hat hown1
        have HR1 : Hid (type_of% R1) := R1
        have R2 : Below w.heap.size w (w4.setCell ⟨w.heap.size + 1, 3, none⟩ (.slice (some ⟨gg, 0, none⟩) (k + 1) cap)) := (((hbe.trans (hb2.mono hz)).alloc (by omega) _).grown hgrow (by simp; omega) (fun j hj => by have := (hown.lt j hj).1; omega)).setCell (by simp) _
        clear R1 HM hown hown1 hgrow hnl hcl hb2 hb2' ho2 x3 xf y3 yf z3 zf hT4 td3 tdf HC0
        go_wp2_with fail
        go_roundw
        case rel => exact ⟨k + 1, _, ls ++ [l], by omega, by go_num, HR1.out, R2⟩
        case measure => simp [intOf]; omega
    · have hke : k = ks.length := by omega
      subst hke
      have rf0 := rf 0
      have rf1 := rf 1
      have rf2 := rf 2
      have rf3 := rf 3
      clear tf rf HEL HTO hown
      go_wp2_with fail
      refine ret_put rfl (fun j hj => ?_) ⟨.mk (.slice none 0 0) (.slice av ks.length cv) ls, rfl, HM.out.done, put_below hbe (Nat.le_refl _)⟩
      match j, hj with
      | 0, _ => rw [rc0]; rfl
      | 1, _ => rw [rc1]; rfl
      | 2, _ => rw [rc2]; rfl
      | 3, _ => rw [rc3]; rfl

theorem empty_of {s : ByteArray} (h : s.size = 0) : s = ⟨#[]⟩ := by
  cases s with
  | mk d => exact congrArg ByteArray.mk (Array.eq_empty_of_size_eq_zero h)

theorem plainLay {B : Nat} {w : World} {n : Nat} {kd : Int} {nm : ByteArray} : NewLay B w (n + 1) (.mk (.slice none 0 0) (.slice none 0 0) []) (.mk kd nm [] []) :=
  ⟨⟨.inl ⟨rfl, rfl, none, 0, rfl⟩, rfl, .inl ⟨rfl, rfl, none, 0, rfl⟩, fun j h1 _ => absurd h1 (by simp)⟩, List.Pairwise.nil, fun b hb => by simp [Lay.blocks, blk] at hb⟩

theorem implTypeOf (n : Nat) : TypeOfAt n := by
  induction n with
  | zero => intro v t d w h; exact h.elim
  | succ n ih =>
    intro v t d w h hr hb
    obtain ⟨a, c, an, cn, hP, hT, hc⟩ := h.cases
    obtain ⟨kd, nm, nms, ks⟩ := t
    simp only at hP hT hc
    have hbe : Ty.bulk (n + 1) (.mk kd nm nms ks) = nm.size + (nms.length + Ty.textsBulk nms) + rowBulk n ks := rfl
    have hbk : rowBulk n ks ≤ 1048576 := by omega
    have hkr : ∀ q ∈ ks, Right n q (d - 1) := hr.2.1
    have hkk := right_kind hr
    simp only at hkk
    have hal := right_alone hr.2.2
    simp only at hal
    rw [ownAlone_iff] at hal
    obtain ⟨al1, al2, al3⟩ := hal
    have hns : ∀ x ∈ nms, x.size ≤ 1048576 := fun x hx => by have := textsBulk_mem nms x hx; omega
    have plain : kd ≠ 5 → nms = [] := fun hk => List.length_eq_zero_iff.1 (by omega)
    have bare : ¬ 5 ≤ kd → ks = [] := fun hk => List.length_eq_zero_iff.1 (by omega)
    have noname : kd ≠ 4 → nm = ⟨#[]⟩ := fun hk => empty_of (by omega)
    rcases hc with ⟨k, rfl⟩ | ⟨k, rfl⟩ | ⟨k, rfl⟩ | ⟨k, rfl⟩ | ⟨k, rfl⟩ | ⟨k, rfl⟩ | ⟨k, rfl⟩ | ⟨k, rfl⟩
    · obtain rfl := plain (by omega)
      obtain rfl := bare (by omega)
      obtain rfl := noname (by omega)
      subst k
      exact (implTypeOf0 a c w).mono fun e w' hh => ⟨.mk (.slice none 0 0) (.slice none 0 0) [], hh.1, plainLay, hh.2⟩
    · obtain rfl := plain (by omega)
      obtain rfl := bare (by omega)
      obtain rfl := noname (by omega)
      subst k
      exact (implTypeOf1 a c w).mono fun e w' hh => ⟨.mk (.slice none 0 0) (.slice none 0 0) [], hh.1, plainLay, hh.2⟩
    · obtain rfl := plain (by omega)
      obtain rfl := bare (by omega)
      obtain rfl := noname (by omega)
      subst k
      exact (implTypeOf2 a c w).mono fun e w' hh => ⟨.mk (.slice none 0 0) (.slice none 0 0) [], hh.1, plainLay, hh.2⟩
    · obtain rfl := plain (by omega)
      obtain rfl := bare (by omega)
      obtain rfl := noname (by omega)
      subst k
      exact (implTypeOf3 a c w).mono fun e w' hh => ⟨.mk (.slice none 0 0) (.slice none 0 0) [], hh.1, plainLay, hh.2⟩
    · obtain rfl := plain (by omega)
      obtain rfl := bare (by omega)
      subst k
      exact (implTypeOf4 a c nm w (by omega)).mono fun e w' hh => ⟨.mk (.slice none 0 0) (.slice none 0 0) [], hh.1, plainLay, hh.2⟩
    · obtain rfl := noname (by omega)
      subst k
      exact implTypeOf5 n ih a an c cn nms ks (d - 1) w hP hT hkr hbk (by omega) hns
    · obtain rfl := plain (by omega)
      obtain rfl := noname (by omega)
      subst k
      exact implTypeOf6 n ih a c ks (d - 1) w hP hkr hbk
    · obtain rfl := plain (by omega)
      obtain rfl := noname (by omega)
      obtain rfl : kd = 7 := by omega
      exact implTypeOf7 n ih a c ks (d - 1) w hP hkr hbk

end Go.Proofs.YthomlchbgcjcfaaGreatDoor
