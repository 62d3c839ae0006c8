/-
  What a store is with a result put; the walk of impl.StorePut.
-/
import Derived.Test.YtoebfpdalkpkdaaDoorItPu
namespace Go.Proofs.YtoebfpdalkpkdaaDoor
open Go.RowKit
open Go.MuLone

theorem ret_storePut {R : Ending → World → Prop} {W : World} {tmps : Array Value} {b : Nat} {x0 x1 : Value} (hp : tmps[6]?.getD undef = .pointer (some ⟨b, 0, none⟩))
    (h : W.cell? ⟨b, 0, none⟩ = some x0 ∧ W.cell? ⟨b, 1, none⟩ = some x1) (hR : R (.returned (.agg #[x0, x1])) W) :
    bodyPost Tryd.prog Tryd.f14 R .ret { tmps := tmps, defers := [] } W := by
  obtain ⟨h0, h1⟩ := h
  refine bodyPost_ret (v := .agg #[x0, x1]) ?_ rfl hR
  simp [results, Tryd.results14, go_sem, hp, h0, h1]

/-- what StorePut leaves -/
def StorePuts (room : Int) (es : List Itm) (s out : ByteArray) (L : List Itm) : Prop := (StoreRight room es → ∃ R, RestIs es s R ∧ L = ((keyB s, s, out) :: R).take room.toNat) ∧ (¬ StoreRight room es → L = es)
theorem restIs_some (es : List Itm) (s : ByteArray) : ∃ R, RestIs es s R := by
  obtain ⟨o, f, L, h⟩ := getIs_some es s
  rcases h with ⟨hno, _, _, _⟩ | ⟨j, hj, he, hf, _, _, _⟩
  · exact ⟨es, .inl ⟨hno, rfl⟩⟩
  · exact ⟨_, .inr ⟨j, hj, he, hf, rfl⟩⟩
theorem storePuts_some (room : Int) (es : List Itm) (s out : ByteArray) : ∃ L, StorePuts room es s out L := by
  by_cases c : StoreRight room es
  · obtain ⟨R, h⟩ := restIs_some es s
    exact ⟨_, fun _ => ⟨R, h, rfl⟩, fun h => absurd c h⟩
  · exact ⟨_, fun h => absurd h c, fun _ => rfl⟩
theorem RestIs.le {es R : List Itm} {s : ByteArray} (h : RestIs es s R) : itsBulk R ≤ itsBulk es := by
  rcases h with ⟨_, rfl⟩ | ⟨j, hj, _, _, rfl⟩
  · exact Nat.le_refl _
  · have h := erase_sum es j hj
    have hl : (es.eraseIdx j).length ≤ es.length := List.length_eraseIdx_le _ _
    unfold itsBulk
    omega
theorem hf_len (f : Nat) : ∀ u, (Hex.hf f u).length = f := by
  induction f with
  | zero => intro u; rfl
  | succ f ih =>
    intro u
    unfold Hex.hf
    simp [ih]
theorem keyB_size (s : ByteArray) : (keyB s).size ≤ 64 := by
  have : (keyB s).size = 16 := by
    show (Hex.hf 16 (dig s.data.toList).toNat).toArray.size = 16
    rw [List.size_toArray, hf_len]
  omega
theorem putBulk {es R : List Itm} (h : itsBulk R ≤ itsBulk es) (room : Int) (s out : ByteArray) (hb : itsBulk es ≤ 1048576) (h1 : s.size ≤ 1048576) (h2 : out.size ≤ 1048576) : itsBulk (((keyB s, s, out) :: R).take room.toNat) ≤ 4194304 := by
  refine Nat.le_trans (its_take _ _) ?_
  have hk := keyB_size s
  unfold itsBulk at *
  rw [List.map_cons, List.sum_cons, List.length_cons]
  have : itBulk ((keyB s, s, out) : Itm) = (keyB s).size + s.size + out.size := rfl
  omega

set_option maxHeartbeats 1600000 in
set_option maxRecDepth 100000 in
theorem implStorePut (room : Int) (v : Value) (es : List Itm) (s out : ByteArray) (L : List Itm) (w : World) (hrow : ItAt w v es) (hb1 : itsBulk es ≤ 1048576) (hsi1 : s.size ≤ 1048576) (ho1 : out.size ≤ 1048576) (htab : w.cell? ⟨3, 15, none⟩ = some (.int .u8 4)) (hG : StorePuts room es s out L) :
    Calls Tryd.prog 14 #[.agg #[.int .i64 room, v], .string s, .string out] w fun e w' => ∃ a c, e = .returned (.agg #[.int .i64 room, .slice a L.length c]) ∧ w'.ownsRow w.heap.size 50 3 (.slice a L.length c) L.length (itV L) ∧ Below w.heap.size w w' := by
  obtain ⟨av, capv, rfl, _⟩ := itOpen hrow
  have hb : itsBulk es ≤ 4194304 := by omega
  have hlen : es.length ≤ 4194304 := by unfold itsBulk at hb; omega
  have hB2 : Below w.heap.size w ((w.alloc (.cells #[.int .i64 room, .slice av es.length capv] 29)).alloc (.cells #[.int .i64 0, .slice none 0 0] 29)) := ((Below.refl _ _).alloc (Nat.le_refl _) _).alloc (by simp) _
  have hzW : ((w.alloc (.cells #[.int .i64 room, .slice av es.length capv] 29)).alloc (.cells #[.int .i64 0, .slice none 0 0] 29)).heap.size = w.heap.size + 1 + 1 := by simp
  have a0 : ((w.alloc (.cells #[.int .i64 room, .slice av es.length capv] 29)).alloc (.cells #[.int .i64 0, .slice none 0 0] 29)).cell? ⟨w.heap.size, 0, none⟩ = some (.int .i64 room) := by rw [itOld _ (by simp), itNew _ rfl]; rfl
  have a1 : ((w.alloc (.cells #[.int .i64 room, .slice av es.length capv] 29)).alloc (.cells #[.int .i64 0, .slice none 0 0] 29)).cell? ⟨w.heap.size, 1, none⟩ = some (.slice av es.length capv) := by rw [itOld _ (by simp), itNew _ rfl]; rfl
  have r0 : ((w.alloc (.cells #[.int .i64 room, .slice av es.length capv] 29)).alloc (.cells #[.int .i64 0, .slice none 0 0] 29)).heap[w.heap.size + 1]? = some (.cells #[.int .i64 0, .slice none 0 0] 29 (0, 0)) := by
    have := (MapKept.heap_alloc (w.alloc (.cells #[.int .i64 room, .slice av es.length capv] 29)) (.cells #[.int .i64 0, .slice none 0 0] 29)).1
    rwa [show (w.alloc (.cells #[.int .i64 room, .slice av es.length capv] 29)).heap.size = w.heap.size + 1 from by simp] at this
  have HNS : Hid (type_of% (implNewStock room _ es _ (hrow.below hB2) hb ((hB2.cell (p := ⟨3, 15, none⟩) (World.block_lt_of_cell? w ⟨3, 15, none⟩ htab)).trans htab))) := implNewStock room _ es _ (hrow.below hB2) hb ((hB2.cell (p := ⟨3, 15, none⟩) (World.block_lt_of_cell? w ⟨3, 15, none⟩ htab)).trans htab)
  have htab3 : Hid (∀ X, Below w.heap.size w X → X.cell? ⟨3, 15, none⟩ = some (.int .u8 4)) := fun X hX => (hX.cell (p := ⟨3, 15, none⟩) (World.block_lt_of_cell? w ⟨3, 15, none⟩ htab)).trans htab
  have HCP : Hid (∀ X, Below w.heap.size w X → Calls Tryd.prog 34 #[.agg #[.int .i64 room, .slice av es.length capv]] X fun e w' => ∃ a c, e = .returned (.agg #[.int .i64 room, .slice a es.length c]) ∧ w'.ownsRow X.heap.size 50 3 (.slice a es.length c) es.length (itV es) ∧ Below X.heap.size X w') := fun X hX => implCopyStore room _ es X (hrow.below hX) hb
  have HB1 : Hid (type_of% hb1) := hb1
  have HGG : Hid (type_of% hG) := hG
  clear hrow htab hb hG hb1
  go_enter Tryd.func14, Tryd.ntmps14
  go_wp2_with fail
  generalize ((w.alloc (.cells #[.int .i64 room, .slice av es.length capv] 29)).alloc (.cells #[.int .i64 0, .slice none 0 0] 29)) = W2 at *
  have hs0 : w.heap.size < W2.heap.size := by omega
  have hs1 : w.heap.size + 1 < W2.heap.size := by omega
  clear hzW
  have HA : Hid (∀ X : World, Below W2.heap.size W2 X → (X.cell? ⟨w.heap.size, 0, none⟩ = some (.int .i64 room) ∧ X.cell? ⟨w.heap.size, 1, none⟩ = some (.slice av es.length capv)) ∧ Below w.heap.size w X) := fun X hX => ⟨⟨(hX.cell (p := ⟨w.heap.size, 0, none⟩) hs0).trans a0, (hX.cell (p := ⟨w.heap.size, 1, none⟩) hs0).trans a1⟩, hB2.trans (hX.mono (by omega))⟩
  have HEND : Hid (∀ (w4 : World) (a : Option Addr) (c m : Nat) (L : List Itm), w4.ownsRow W2.heap.size 50 3 (.slice a m c) m (itV L) → Below W2.heap.size W2 w4 → w4.cell? ⟨w.heap.size + 1, 0, none⟩ = some (.int .i64 0) ∧ w4.cell? ⟨w.heap.size + 1, 1, none⟩ = some (.slice none 0 0) ∧ w4.frozen? ⟨w.heap.size + 1, 0, none⟩ = false ∧ w4.frozen? ⟨w.heap.size + 1, 1, none⟩ = false ∧ Hid (((w4.setCell ⟨w.heap.size + 1, 0, none⟩ (.int .i64 room)).setCell ⟨w.heap.size + 1, 1, none⟩ (.slice a m c)).cell? ⟨w.heap.size + 1, 0, none⟩ = some (.int .i64 room) ∧ ((w4.setCell ⟨w.heap.size + 1, 0, none⟩ (.int .i64 room)).setCell ⟨w.heap.size + 1, 1, none⟩ (.slice a m c)).cell? ⟨w.heap.size + 1, 1, none⟩ = some (.slice a m c) ∧ ((w4.setCell ⟨w.heap.size + 1, 0, none⟩ (.int .i64 room)).setCell ⟨w.heap.size + 1, 1, none⟩ (.slice a m c)).ownsRow w.heap.size 50 3 (.slice a m c) m (itV L) ∧ Below w.heap.size w ((w4.setCell ⟨w.heap.size + 1, 0, none⟩ (.int .i64 room)).setCell ⟨w.heap.size + 1, 1, none⟩ (.slice a m c)))) := fun w4 a c m L ho b4 => boxEnd hB2 hs1 r0 ho b4
  clear a0 a1 r0 hB2
  refine HNS.out.mono ?_
  rintro e w3 ⟨hb3, h3⟩
  obtain ⟨⟨a0, a1⟩, hbw3⟩ := HA.out w3 hb3
  have HCP3 : Hid (type_of% (HCP.out w3 hbw3)) := HCP.out w3 hbw3
  have HKEY : Hid (type_of% (implKey s w3 (by omega) (htab3.out w3 hbw3))) := implKey s w3 (by omega) (htab3.out w3 hbw3)
  clear HNS HCP hbw3 HA htab3
  rcases h3 with ⟨hno, rfl⟩ | ⟨hyes, sb, M, a, c, rfl, hNS⟩
  · obtain rfl := HGG.out.2 hno
    have HEND2 : Hid (∀ w4 a c, w4.ownsRow w3.heap.size 50 3 (.slice a L.length c) L.length (itV L) → Below w3.heap.size w3 w4 → _) := fun w4 a c ho b4 => HEND.out w4 a c L.length L (itLow ho hb3.size fun _ _ => rfl) (hb3.trans (b4.mono hb3.size))
    clear hno HEND
    go_wp2_with fail
    refine HCP3.out.mono ?_
    rintro e w4 ⟨a4, c4, rfl, ho4, hb4⟩
    obtain ⟨d0, d1, f0, f1, HF⟩ := HEND2.out w4 a4 c4 ho4 hb4
    clear HEND2 HCP3 ho4 hb4
    go_wp2_with fail
    obtain ⟨q0, q1, q2, q3⟩ := HF.out
    exact ret_storePut (b := w.heap.size + 1) rfl ⟨q0, q1⟩ ⟨a4, c4, rfl, q2, q3⟩
  · obtain ⟨R, hRI, HLE⟩ := HGG.out.1 hyes
    have hbk := putBulk hRI.le room s out HB1.out hsi1 ho1
    rw [← HLE] at hbk
    have HLB : Hid (type_of% hbk) := hbk
    have HST : Hid (∀ X, Below w3.heap.size w3 X → Calls Tryd.prog 35 #[.pointer (some ⟨sb, 0, none⟩), .agg #[.string (keyB s), .string s, .string out]] X fun e w' => e = .returned (.tuple #[]) ∧ ∃ v', Stk W2.heap.size w' sb M 0 room v' L ∧ Below W2.heap.size X w') := fun X hX => by
      have := stkPut W2.heap.size sb M room a c es R (keyB s) s out X (hNS.stk.below hX) (hNS.map.same (hX.block M hNS.stk.map.lt)) hRI hyes.2.1 hyes.2.2.1 hyes.2.2.2
      rw [← HLE] at this
      exact this
    have hz3 := hb3.size
    clear hNS hyes HCP3 HGG hRI HLE hbk
    generalize keyB s = ky at *
    go_wp2_with fail
    refine HKEY.out.mono ?_
    rintro e wk ⟨rfl, hbk⟩
    have HU : Hid (type_of% (HST.out wk hbk)) := HST.out wk hbk
    have hb3k := hb3.trans (hbk.mono hz3)
    clear HST HKEY hb3 hbk
    go_wp2_with fail
    refine HU.out.mono ?_
    rintro e w4 ⟨rfl, v4, hS4, hb4⟩
    have hb24 := hb3k.trans hb4
    have HS0 := stkStore W2.heap.size sb M room _ _ w4 hS4 HLB.out hb24.size
    have HS : Hid (type_of% HS0) := HS0
    have hz4 := hb24.size
    clear HU HS0 hS4 hb4 hb3k
    go_wp2_with fail
    refine HS.out.mono ?_
    rintro e w5 ⟨a5, c5, rfl, ho5, hb5⟩
    obtain ⟨d0, d1, f0, f1, HF⟩ := HEND.out w5 a5 c5 _ _ (itLow ho5 hz4 fun _ _ => rfl) (hb24.trans hb5)
    clear HS HEND ho5 hb5 hb24
    go_wp2_with fail
    obtain ⟨q0, q1, q2, q3⟩ := HF.out
    exact ret_storePut (b := w.heap.size + 1) rfl ⟨q0, q1⟩ ⟨a5, c5, rfl, q2, q3⟩

end Go.Proofs.YtoebfpdalkpkdaaDoor
