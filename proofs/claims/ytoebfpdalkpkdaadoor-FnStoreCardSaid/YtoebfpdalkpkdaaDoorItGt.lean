/-
  What is got from a store; the walks of a stock's use and of impl.StoreGet.
-/
import Derived.Test.YtoebfpdalkpkdaaDoorItB
namespace Go.Proofs.YtoebfpdalkpkdaaDoor
open Go.RowKit
open Go.MuLone

/-- what is told of an input among items: its output, whether it is there, and the items with it first -/
def GetIs (es : List Itm) (s out : ByteArray) (fnd : Bool) (L : List Itm) : Prop :=
  ((∀ j (hj : j < es.length), es[j].2.1 ≠ s) ∧ out = ⟨#[]⟩ ∧ fnd = false ∧ L = es) ∨
  ∃ j, ∃ hj : j < es.length, es[j].2.1 = s ∧ (∀ i (hi : i < j), (es[i]'(by omega)).2.1 ≠ s) ∧ out = es[j].2.2 ∧ fnd = true ∧ L = es[j] :: es.eraseIdx j
theorem getIs_some (es : List Itm) (s : ByteArray) : ∃ out fnd L, GetIs es s out fnd L := by
  rcases place_cases es s with h | ⟨j, hj, he, hf⟩
  · exact ⟨_, _, _, .inl ⟨h, rfl, rfl, rfl⟩⟩
  · exact ⟨_, _, _, .inr ⟨j, hj, he, hf, rfl, rfl, rfl⟩⟩
theorem GetIs.length {es : List Itm} {s out : ByteArray} {fnd : Bool} {L : List Itm} (h : GetIs es s out fnd L) : L.length = es.length := by
  rcases h with ⟨_, _, _, rfl⟩ | ⟨j, hj, _, _, _, _, rfl⟩
  · rfl
  · rw [List.length_cons, List.length_eraseIdx, if_pos hj]
    omega
theorem erase_sum (es : List Itm) (j : Nat) (hj : j < es.length) : itBulk es[j] + ((es.eraseIdx j).map itBulk).sum = (es.map itBulk).sum := by
  induction es generalizing j with
  | nil => simp at hj
  | cons x r ih =>
    match j, hj with
    | 0, _ => rfl
    | j + 1, hj =>
      have hj2 : j < r.length := by simpa using hj
      have h := ih j hj2
      show itBulk r[j] + (itBulk x + ((r.eraseIdx j).map itBulk).sum) = itBulk x + (r.map itBulk).sum
      omega
theorem erase_bulk (es : List Itm) (j : Nat) (hj : j < es.length) : itsBulk (es[j] :: es.eraseIdx j) = itsBulk es := by
  have h := erase_sum es j hj
  have hl : (es[j] :: es.eraseIdx j).length = es.length := by
    rw [List.length_cons, List.length_eraseIdx, if_pos hj]
    omega
  unfold itsBulk
  rw [hl, List.map_cons, List.sum_cons, h]
theorem GetIs.bulk {es : List Itm} {s out : ByteArray} {fnd : Bool} {L : List Itm} (h : GetIs es s out fnd L) : itsBulk L = itsBulk es := by
  rcases h with ⟨_, _, _, rfl⟩ | ⟨j, hj, _, _, _, _, rfl⟩
  · rfl
  · exact erase_bulk es j hj
theorem GetIs.out_le {es : List Itm} {s out : ByteArray} {fnd : Bool} {L : List Itm} (h : GetIs es s out fnd L) : out.size ≤ itsBulk es := by
  rcases h with ⟨_, rfl, _, _⟩ | ⟨j, hj, _, _, rfl, _, _⟩
  · exact Nat.zero_le _
  · have := it_bulk es j hj
    omega

theorem TMap.set {w : World} {M sb i : Nat} {D : List (ByteArray × Value)} {u : Value} (h : TMap w M D) (hne : M ≠ sb) : TMap (w.setCell ⟨sb, i, none⟩ u) M D := h.same (Below.heap_setCell _ _ _ _ (by simpa using hne))

set_option maxHeartbeats 1600000 in
set_option maxRecDepth 100000 in
theorem stkUse (B sb M : Nat) (room : Int) (a : Option Addr) (c : Nat) (es : List Itm) (s out : ByteArray) (fnd : Bool) (L : List Itm) (w : World) (h : Stk B w sb M 0 room (.slice a es.length c) es) (hT : TMap w M (stoD es es.length)) (hG : GetIs es s out fnd L) (hlen : es.length ≤ 4194305) :
    Calls Tryd.prog 40 #[.pointer (some ⟨sb, 0, none⟩), .string s] w fun e w' => e = .returned (.tuple #[.string out, .bool fnd]) ∧ Stk B w' sb M 0 room (.slice a es.length c) L ∧ Below B w w' := by
  obtain ⟨s0, f0⟩ : w.cell? ⟨sb, 0, none⟩ = some (.int .i32 0) ∧ w.frozen? ⟨sb, 0, none⟩ = false := ⟨(block5 h.box).1.1, (block5 h.box).2 0⟩
  have h1 := h.lock 1
  have s4 : (w.setCell ⟨sb, 0, none⟩ (.int .i32 1)).cell? ⟨sb, 4, none⟩ = some (.map (some M)) := (block5 h1.box).1.2.2.2.2
  have hb1 : Below B w (w.setCell ⟨sb, 0, none⟩ (.int .i32 1)) := (Below.refl _ _).setCell h.bs _
  have hT1 : TMap (w.setCell ⟨sb, 0, none⟩ (.int .i32 1)) M (stoD es es.length) := hT.set h.neM.symm
  rcases hG with ⟨hno, rfl, rfl, rfl⟩ | ⟨j, hj, he, hf, rfl, rfl, rfl⟩
  · have hlk := lookTkNo hT1 s (stoD_none _ _ (Nat.le_refl _) s hno)
    obtain ⟨t0, g0⟩ : (w.setCell ⟨sb, 0, none⟩ (.int .i32 1)).cell? ⟨sb, 0, none⟩ = some (.int .i32 1) ∧ (w.setCell ⟨sb, 0, none⟩ (.int .i32 1)).frozen? ⟨sb, 0, none⟩ = false := ⟨(block5 h1.box).1.1, (block5 h1.box).2 0⟩
    have HE : Hid (Stk B ((w.setCell ⟨sb, 0, none⟩ (.int .i32 1)).setCell ⟨sb, 0, none⟩ (.int .i32 0)) sb M 0 room (.slice a L.length c) L ∧ Below B w ((w.setCell ⟨sb, 0, none⟩ (.int .i32 1)).setCell ⟨sb, 0, none⟩ (.int .i32 0))) := ⟨h1.lock 0, hb1.setCell h.bs _⟩
    clear h h1 hT hT1 hno hb1
    go_enter_defers Tryd.func40, Tryd.ntmps40
    go_wp2_with (go_at_call 54; refine (lock_free Tryd.muLib ⟨sb, 0, none⟩ _ s0 f0).mono ?_; rintro e w' ⟨rfl, rfl⟩)
    refine leaves_cons (f := 55) (args := #[.pointer (some ⟨sb, 0, none⟩)]) (by simp) (by simp [go_sem]) ?_
    refine (unlock_deferred Tryd.muLib ⟨sb, 0, none⟩ .returning _ t0 g0).mono ?_
    rintro e u' w'' ⟨rfl, rfl, rfl⟩
    exact ⟨_, results_tmp2 rfl _ _ _, rfl, HE.out.1, HE.out.2⟩
  · have hlk := lookTk hT1 s _ (stoD_some _ _ (Nat.le_refl _) s j hj he hf)
    obtain ⟨g, c', e', _, hgl, hcap⟩ := h.some (by omega)
    simp only [Value.slice.injEq, true_and] at e'
    obtain ⟨rfl, rfl⟩ := e'
    have HK0 := stkBring B sb M j 1 room g c es.length es _ h1 rfl hj (by omega)
    have HK : Hid (type_of% HK0) := HK0
    obtain ⟨x, hx⟩ : ∃ x, x = es[j] := ⟨_, rfl⟩
    rw [← hx] at HK ⊢
    have hel : 0 < es.length := by omega
    have hle : (x :: es.eraseIdx j).length = es.length := by
      rw [List.length_cons, List.length_eraseIdx, if_pos hj]
      omega
    clear h h1 hT hT1 hf he HK0 hx
    go_enter_defers Tryd.func40, Tryd.ntmps40
    go_wp2_with (go_at_call 54; refine (lock_free Tryd.muLib ⟨sb, 0, none⟩ _ s0 f0).mono ?_; rintro e w' ⟨rfl, rfl⟩)
    refine HK.out.mono ?_
    rintro e w2 ⟨rfl, hS2, hb2⟩
    obtain ⟨t0, g0⟩ : w2.cell? ⟨sb, 0, none⟩ = some (.int .i32 1) ∧ w2.frozen? ⟨sb, 0, none⟩ = false := ⟨(block5 hS2.box).1.1, (block5 hS2.box).2 0⟩
    have s3 : w2.cell? ⟨sb, 3, none⟩ = some (.slice (some ⟨g, 0, none⟩) es.length c) := (block5 hS2.box).1.2.2.2.1
    have hrow := hS2.row
    rw [hle] at hrow
    have c2 : w2.cell? ⟨g, 2, none⟩ = some (.string x.2.2) := by
      obtain ⟨_, _, v2⟩ := itV_at (x :: es.eraseIdx j) 0 (by omega)
      have := hrow.cellAt 2 (by omega)
      rw [this]
      exact v2
    have HE : Hid (Stk B (w2.setCell ⟨sb, 0, none⟩ (.int .i32 0)) sb M 0 room (.slice (some ⟨g, 0, none⟩) es.length c) (x :: es.eraseIdx j) ∧ Below B w (w2.setCell ⟨sb, 0, none⟩ (.int .i32 0))) := ⟨hS2.lock 0, (hb1.trans hb2).setCell hS2.bs _⟩
    have hei : (0 : Int) < (es.length : Int) := by omega
    clear HK hS2 hb1 hb2 s0 f0 s4 hlk hrow hle
    go_wp2_with fail
    refine leaves_cons (f := 55) (args := #[.pointer (some ⟨sb, 0, none⟩)]) (by simp) (by simp [go_sem]) ?_
    refine (unlock_deferred Tryd.muLib ⟨sb, 0, none⟩ .returning _ t0 g0).mono ?_
    rintro e u' w'' ⟨rfl, rfl, rfl⟩
    exact ⟨_, results_tmp2 rfl _ _ _, rfl, HE.out.1, HE.out.2⟩

theorem ret_storeGet {R : Ending → World → Prop} {W : World} {tmps : Array Value} {b : Nat} {x0 x1 x2 x3 : Value} (hp : tmps[4]?.getD undef = .pointer (some ⟨b, 0, none⟩)) (hq : tmps[5]?.getD undef = x2) (hr : tmps[6]?.getD undef = x3)
    (h : W.cell? ⟨b, 0, none⟩ = some x0 ∧ W.cell? ⟨b, 1, none⟩ = some x1) (hR : R (.returned (.tuple #[.agg #[x0, x1], x2, x3])) W) :
    bodyPost Tryd.prog Tryd.f18 R .ret { tmps := tmps, defers := [] } W := by
  obtain ⟨h0, h1⟩ := h
  refine bodyPost_ret (v := .tuple #[.agg #[x0, x1], x2, x3]) ?_ rfl hR
  simp [results, Tryd.results18, go_sem, hp, hq, hr, h0, h1]

/-- what StoreGet tells -/
def StoreGets (room : Int) (es : List Itm) (s out : ByteArray) (fnd : Bool) (L : List Itm) : Prop := (StoreRight room es → GetIs es s out fnd L) ∧ (¬ StoreRight room es → out = ⟨#[]⟩ ∧ fnd = false ∧ L = es)
theorem storeGets_some (room : Int) (es : List Itm) (s : ByteArray) : ∃ out fnd L, StoreGets room es s out fnd L := by
  by_cases c : StoreRight room es
  · obtain ⟨o, f, L, h⟩ := getIs_some es s
    exact ⟨o, f, L, fun _ => h, fun h => absurd c h⟩
  · exact ⟨_, _, _, fun h => absurd h c, fun _ => ⟨rfl, rfl, rfl⟩⟩
theorem StoreGets.length {room : Int} {es : List Itm} {s out : ByteArray} {fnd : Bool} {L : List Itm} (h : StoreGets room es s out fnd L) : L.length = es.length := by
  by_cases c : StoreRight room es
  · exact (h.1 c).length
  · rw [(h.2 c).2.2]

set_option maxHeartbeats 1600000 in
set_option maxRecDepth 100000 in
theorem implStoreGet (room : Int) (v : Value) (es : List Itm) (s out : ByteArray) (fnd : Bool) (L : List Itm) (w : World) (hrow : ItAt w v es) (hb : itsBulk es ≤ 4194304) (htab : w.cell? ⟨3, 15, none⟩ = some (.int .u8 4)) (hG : StoreGets room es s out fnd L) :
    Calls Tryd.prog 18 #[.agg #[.int .i64 room, v], .string s] w fun e w' => ∃ a c, e = .returned (.tuple #[.agg #[.int .i64 room, .slice a L.length c], .string out, .bool fnd]) ∧ w'.ownsRow w.heap.size 50 3 (.slice a L.length c) L.length (itV L) ∧ Below w.heap.size w w' := by
  obtain ⟨av, capv, rfl, _⟩ := itOpen hrow
  have hlen : es.length ≤ 4194304 := by unfold itsBulk at hb; omega
  have hB2 : Below w.heap.size w ((w.alloc (.cells #[.int .i64 room, .slice av es.length capv] 29)).alloc (.cells #[.int .i64 0, .slice none 0 0] 29)) := ((Below.refl _ _).alloc (Nat.le_refl _) _).alloc (by simp) _
  have hzW : ((w.alloc (.cells #[.int .i64 room, .slice av es.length capv] 29)).alloc (.cells #[.int .i64 0, .slice none 0 0] 29)).heap.size = w.heap.size + 1 + 1 := by simp
  have a0 : ((w.alloc (.cells #[.int .i64 room, .slice av es.length capv] 29)).alloc (.cells #[.int .i64 0, .slice none 0 0] 29)).cell? ⟨w.heap.size, 0, none⟩ = some (.int .i64 room) := by rw [itOld _ (by simp), itNew _ rfl]; rfl
  have a1 : ((w.alloc (.cells #[.int .i64 room, .slice av es.length capv] 29)).alloc (.cells #[.int .i64 0, .slice none 0 0] 29)).cell? ⟨w.heap.size, 1, none⟩ = some (.slice av es.length capv) := by rw [itOld _ (by simp), itNew _ rfl]; rfl
  have r0 : ((w.alloc (.cells #[.int .i64 room, .slice av es.length capv] 29)).alloc (.cells #[.int .i64 0, .slice none 0 0] 29)).heap[w.heap.size + 1]? = some (.cells #[.int .i64 0, .slice none 0 0] 29 (0, 0)) := by
    have := (MapKept.heap_alloc (w.alloc (.cells #[.int .i64 room, .slice av es.length capv] 29)) (.cells #[.int .i64 0, .slice none 0 0] 29)).1
    rwa [show (w.alloc (.cells #[.int .i64 room, .slice av es.length capv] 29)).heap.size = w.heap.size + 1 from by simp] at this
  have HNS : Hid (type_of% (implNewStock room _ es _ (hrow.below hB2) hb ((hB2.cell (p := ⟨3, 15, none⟩) (World.block_lt_of_cell? w ⟨3, 15, none⟩ htab)).trans htab))) := implNewStock room _ es _ (hrow.below hB2) hb ((hB2.cell (p := ⟨3, 15, none⟩) (World.block_lt_of_cell? w ⟨3, 15, none⟩ htab)).trans htab)
  have HCP : Hid (∀ X, Below w.heap.size w X → Calls Tryd.prog 34 #[.agg #[.int .i64 room, .slice av es.length capv]] X fun e w' => ∃ a c, e = .returned (.agg #[.int .i64 room, .slice a es.length c]) ∧ w'.ownsRow X.heap.size 50 3 (.slice a es.length c) es.length (itV es) ∧ Below X.heap.size X w') := fun X hX => implCopyStore room _ es X (hrow.below hX) hb
  have HB : Hid (type_of% hb) := hb
  have HGG : Hid (type_of% hG) := hG
  clear hrow htab hb hG
  go_enter Tryd.func18, Tryd.ntmps18
  go_wp2_with fail
  generalize ((w.alloc (.cells #[.int .i64 room, .slice av es.length capv] 29)).alloc (.cells #[.int .i64 0, .slice none 0 0] 29)) = W2 at *
  have hs0 : w.heap.size < W2.heap.size := by omega
  have hs1 : w.heap.size + 1 < W2.heap.size := by omega
  clear hzW
  have HA : Hid (∀ X : World, Below W2.heap.size W2 X → (X.cell? ⟨w.heap.size, 0, none⟩ = some (.int .i64 room) ∧ X.cell? ⟨w.heap.size, 1, none⟩ = some (.slice av es.length capv)) ∧ Below w.heap.size w X) := fun X hX => ⟨⟨(hX.cell (p := ⟨w.heap.size, 0, none⟩) hs0).trans a0, (hX.cell (p := ⟨w.heap.size, 1, none⟩) hs0).trans a1⟩, hB2.trans (hX.mono (by omega))⟩
  have HEND : Hid (∀ (w4 : World) (a : Option Addr) (c m : Nat) (L : List Itm), w4.ownsRow W2.heap.size 50 3 (.slice a m c) m (itV L) → Below W2.heap.size W2 w4 → w4.cell? ⟨w.heap.size + 1, 0, none⟩ = some (.int .i64 0) ∧ w4.cell? ⟨w.heap.size + 1, 1, none⟩ = some (.slice none 0 0) ∧ w4.frozen? ⟨w.heap.size + 1, 0, none⟩ = false ∧ w4.frozen? ⟨w.heap.size + 1, 1, none⟩ = false ∧ Hid (((w4.setCell ⟨w.heap.size + 1, 0, none⟩ (.int .i64 room)).setCell ⟨w.heap.size + 1, 1, none⟩ (.slice a m c)).cell? ⟨w.heap.size + 1, 0, none⟩ = some (.int .i64 room) ∧ ((w4.setCell ⟨w.heap.size + 1, 0, none⟩ (.int .i64 room)).setCell ⟨w.heap.size + 1, 1, none⟩ (.slice a m c)).cell? ⟨w.heap.size + 1, 1, none⟩ = some (.slice a m c) ∧ ((w4.setCell ⟨w.heap.size + 1, 0, none⟩ (.int .i64 room)).setCell ⟨w.heap.size + 1, 1, none⟩ (.slice a m c)).ownsRow w.heap.size 50 3 (.slice a m c) m (itV L) ∧ Below w.heap.size w ((w4.setCell ⟨w.heap.size + 1, 0, none⟩ (.int .i64 room)).setCell ⟨w.heap.size + 1, 1, none⟩ (.slice a m c)))) := fun w4 a c m L ho b4 => boxEnd hB2 hs1 r0 ho b4
  clear a0 a1 r0 hB2
  refine HNS.out.mono ?_
  rintro e w3 ⟨hb3, h3⟩
  obtain ⟨⟨a0, a1⟩, hbw3⟩ := HA.out w3 hb3
  have HCP3 : Hid (type_of% (HCP.out w3 hbw3)) := HCP.out w3 hbw3
  clear HNS HCP hbw3 HA
  rcases h3 with ⟨hno, rfl⟩ | ⟨hyes, sb, M, a, c, rfl, hNS⟩
  · obtain ⟨rfl, rfl, rfl⟩ := HGG.out.2 hno
    have HEND2 : Hid (∀ w4 a c, w4.ownsRow w3.heap.size 50 3 (.slice a L.length c) L.length (itV L) → Below w3.heap.size w3 w4 → _) := fun w4 a c ho b4 => HEND.out w4 a c L.length L (itLow ho hb3.size fun _ _ => rfl) (hb3.trans (b4.mono hb3.size))
    clear hno HEND
    go_wp2_with fail
    refine HCP3.out.mono ?_
    rintro e w4 ⟨a4, c4, rfl, ho4, hb4⟩
    obtain ⟨d0, d1, f0, f1, HF⟩ := HEND2.out w4 a4 c4 ho4 hb4
    clear HEND2 HCP3 ho4 hb4
    go_wp2_with fail
    obtain ⟨q0, q1, q2, q3⟩ := HF.out
    exact ret_storeGet (b := w.heap.size + 1) rfl rfl rfl ⟨q0, q1⟩ ⟨a4, c4, rfl, q2, q3⟩
  · have hGI := HGG.out.1 hyes
    have HU0 := stkUse W2.heap.size sb M room a c es s out fnd L w3 hNS.stk hNS.map hGI (by omega)
    have HU : Hid (type_of% HU0) := HU0
    have hLl := hGI.length
    have hLb : itsBulk L ≤ 4194304 := by rw [hGI.bulk]; exact HB.out
    have hol : out.size ≤ 4194304 := Nat.le_trans hGI.out_le HB.out
    have HLL : Hid (type_of% hLl) := hLl
    have HLB : Hid (type_of% hLb) := hLb
    have hz3 := hb3.size
    clear HU0 hNS hyes HCP3 hGI hLl hLb HGG
    go_wp2_with fail
    refine HU.out.mono ?_
    rintro e w4 ⟨rfl, hS4, hb4⟩
    have hb24 := hb3.trans hb4
    have HS0 := stkStore W2.heap.size sb M room _ _ w4 hS4 HLB.out hb24.size
    have HS : Hid (type_of% HS0) := HS0
    have hz4 := hb24.size
    clear HU HS0 hS4 hb4 hb3
    go_wp2_with fail
    refine HS.out.mono ?_
    rintro e w5 ⟨a5, c5, rfl, ho5, hb5⟩
    have hb25 := hb24.trans hb5
    have ho5' := itLow ho5 hz4 (Y := w5) fun _ _ => rfl
    have HCL : Hid (∀ wx : World, Calls Tryd.prog 41 #[.string out] wx fun e w' => e = .returned (.string out) ∧ Below wx.heap.size wx w') := fun wx => stringsClone out wx (by omega)
    have HO5 : Hid (type_of% ho5') := ho5'
    clear HS ho5 ho5' hb5 hb24
    go_wp2_with fail
    refine (HCL.out _).mono ?_
    rintro e w6 ⟨rfl, hb6⟩
    obtain ⟨d0, d1, f0, f1, HF⟩ := HEND.out w6 a5 c5 _ _ (itKept HO5.out hb6) (hb25.trans (hb6.mono hb25.size))
    clear HCL HEND HO5 hb6 hb25
    go_wp2_with fail
    obtain ⟨q0, q1, q2, q3⟩ := HF.out
    exact ret_storeGet (b := w.heap.size + 1) rfl rfl rfl ⟨q0, q1⟩ ⟨a5, c5, rfl, q2, q3⟩

end Go.Proofs.YtoebfpdalkpkdaaDoor
