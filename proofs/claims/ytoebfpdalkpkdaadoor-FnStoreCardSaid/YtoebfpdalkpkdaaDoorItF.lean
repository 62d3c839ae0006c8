/-
  What is left of a store when its last items are dropped; the walks of a stock's drop and of impl.StoreDrop.
-/
import Derived.Test.YtoebfpdalkpkdaaDoorItK
namespace Go.Proofs.YtoebfpdalkpkdaaDoor
open Go.RowKit
open Go.MuLone

/-- so many items are left -/
def DropIs (room : Int) (es : List Itm) (n : Int) (m : Nat) : Prop := (StoreRight room es ∧ 0 ≤ n ∧ n ≤ 100 → m = es.length - n.toNat) ∧ (¬ (StoreRight room es ∧ 0 ≤ n ∧ n ≤ 100) → m = es.length)
theorem DropIs.le {room : Int} {es : List Itm} {n : Int} {m : Nat} (h : DropIs room es n m) : m ≤ es.length := by
  by_cases c : StoreRight room es ∧ 0 ≤ n ∧ n ≤ 100
  · rw [h.1 c]; omega
  · rw [h.2 c]; exact Nat.le_refl _
theorem dropIs_some (room : Int) (es : List Itm) (n : Int) : ∃ m, DropIs room es n m := by
  by_cases c : StoreRight room es ∧ 0 ≤ n ∧ n ≤ 100
  · exact ⟨_, fun _ => rfl, fun h => absurd c h⟩
  · exact ⟨_, fun h => absurd h c, fun _ => rfl⟩
theorem ret_storeDrop {R : Ending → World → Prop} {W : World} {tmps : Array Value} {b : Nat} {x0 x1 : Value} (hp : tmps[4]?.getD undef = .pointer (some ⟨b, 0, none⟩))
    (h : W.cell? ⟨b, 0, none⟩ = some x0 ∧ W.cell? ⟨b, 1, none⟩ = some x1) (hR : R (.returned (.agg #[x0, x1])) W) :
    bodyPost Tryd.prog Tryd.f20 R .ret { tmps := tmps, defers := [] } W := by
  obtain ⟨h0, h1⟩ := h
  refine bodyPost_ret (v := .agg #[x0, x1]) ?_ rfl hR
  simp [results, Tryd.results20, go_sem, hp, h0, h1]

set_option maxHeartbeats 1600000 in
set_option maxRecDepth 100000 in
theorem stkDrop (B sb M : Nat) (room n : Int) (a : Option Addr) (c : Nat) (es : List Itm) (w : World) (h : Stk B w sb M 0 room (.slice a es.length c) es) (hn0 : 0 ≤ n) (hn1 : n ≤ 1000) (hlen : es.length ≤ 4194305) :
    Calls Tryd.prog 42 #[.pointer (some ⟨sb, 0, none⟩), .int .i64 n] w fun e w' => e = .returned (.tuple #[]) ∧ Stk B w' sb M 0 room (.slice a (es.length - n.toNat) c) (es.take (es.length - n.toNat)) ∧ Below B w w' := by
  obtain ⟨s0, f0⟩ : w.cell? ⟨sb, 0, none⟩ = some (.int .i32 0) ∧ w.frozen? ⟨sb, 0, none⟩ = false := ⟨(block5 h.box).1.1, (block5 h.box).2 0⟩
  have h1 := h.lock 1
  have s3 : (w.setCell ⟨sb, 0, none⟩ (.int .i32 1)).cell? ⟨sb, 3, none⟩ = some (.slice a es.length c) := (block5 h1.box).1.2.2.2.1
  have hb1 : Below B w (w.setCell ⟨sb, 0, none⟩ (.int .i32 1)) := (Below.refl _ _).setCell h.bs _
  have HK0 := stkKeep B sb M 1 room (max 0 ((es.length : Int) - n)) a c es _ h1 (by omega) (by omega) hlen
  rw [show min es.length (max 0 ((es.length : Int) - n)).toNat = es.length - n.toNat from by omega] at HK0
  have HK : Hid (type_of% HK0) := HK0
  clear h h1 HK0
  go_enter_defers Tryd.func42, Tryd.ntmps42
  go_wp2_with (go_at_call 54; refine (lock_free Tryd.muLib ⟨sb, 0, none⟩ _ s0 f0).mono ?_; rintro e w' ⟨rfl, rfl⟩)
  refine HK.out.mono ?_
  rintro e w2 ⟨rfl, hS2, hb2⟩
  obtain ⟨t0, g0⟩ : w2.cell? ⟨sb, 0, none⟩ = some (.int .i32 1) ∧ w2.frozen? ⟨sb, 0, none⟩ = false := ⟨(block5 hS2.box).1.1, (block5 hS2.box).2 0⟩
  have hS3 := hS2.lock 0
  have hb3 : Below B w (w2.setCell ⟨sb, 0, none⟩ (.int .i32 0)) := (hb1.trans hb2).setCell hS2.bs _
  have HE : Hid (type_of% hS3) := hS3
  clear HK hS2 hS3 hb1 hb2 s0 f0 s3
  go_wp2_with fail
  refine leaves_cons (f := 55) (args := #[.pointer (some ⟨sb, 0, none⟩)]) (by simp) (by simp [go_sem]) ?_
  refine (unlock_deferred Tryd.muLib ⟨sb, 0, none⟩ .returning _ t0 g0).mono ?_
  rintro e u' w'' ⟨rfl, rfl, rfl⟩
  exact ⟨_, results_none rfl _ _ _, rfl, HE.out, hb3⟩

set_option maxHeartbeats 1600000 in
set_option maxRecDepth 100000 in
theorem implStoreDrop (room n : Int) (v : Value) (es : List Itm) (w : World) (hrow : ItAt w v es) (hb : itsBulk es ≤ 4194304) (htab : w.cell? ⟨3, 15, none⟩ = some (.int .u8 4)) (k : Nat) (hk : DropIs room es n k) :
    Calls Tryd.prog 20 #[.agg #[.int .i64 room, v], .int .i64 n] w fun e w' => ∃ a c, e = .returned (.agg #[.int .i64 room, .slice a k c]) ∧ w'.ownsRow w.heap.size 50 3 (.slice a k c) k (itV (es.take k)) ∧ Below w.heap.size w w' := by
  obtain ⟨av, capv, rfl, _⟩ := itOpen hrow
  have hlen : es.length ≤ 4194304 := by unfold itsBulk at hb; omega
  have hB2 : Below w.heap.size w ((w.alloc (.cells #[.int .i64 room, .slice av es.length capv] 29)).alloc (.cells #[.int .i64 0, .slice none 0 0] 29)) := ((Below.refl _ _).alloc (Nat.le_refl _) _).alloc (by simp) _
  have hzW : ((w.alloc (.cells #[.int .i64 room, .slice av es.length capv] 29)).alloc (.cells #[.int .i64 0, .slice none 0 0] 29)).heap.size = w.heap.size + 1 + 1 := by simp
  have a0 : ((w.alloc (.cells #[.int .i64 room, .slice av es.length capv] 29)).alloc (.cells #[.int .i64 0, .slice none 0 0] 29)).cell? ⟨w.heap.size, 0, none⟩ = some (.int .i64 room) := by rw [itOld _ (by simp), itNew _ rfl]; rfl
  have a1 : ((w.alloc (.cells #[.int .i64 room, .slice av es.length capv] 29)).alloc (.cells #[.int .i64 0, .slice none 0 0] 29)).cell? ⟨w.heap.size, 1, none⟩ = some (.slice av es.length capv) := by rw [itOld _ (by simp), itNew _ rfl]; rfl
  have r0 : ((w.alloc (.cells #[.int .i64 room, .slice av es.length capv] 29)).alloc (.cells #[.int .i64 0, .slice none 0 0] 29)).heap[w.heap.size + 1]? = some (.cells #[.int .i64 0, .slice none 0 0] 29 (0, 0)) := by
    have := (MapKept.heap_alloc (w.alloc (.cells #[.int .i64 room, .slice av es.length capv] 29)) (.cells #[.int .i64 0, .slice none 0 0] 29)).1
    rwa [show (w.alloc (.cells #[.int .i64 room, .slice av es.length capv] 29)).heap.size = w.heap.size + 1 from by simp] at this
  have HNS : Hid (type_of% (implNewStock room _ es _ (hrow.below hB2) hb ((hB2.cell (p := ⟨3, 15, none⟩) (World.block_lt_of_cell? w ⟨3, 15, none⟩ htab)).trans htab))) := implNewStock room _ es _ (hrow.below hB2) hb ((hB2.cell (p := ⟨3, 15, none⟩) (World.block_lt_of_cell? w ⟨3, 15, none⟩ htab)).trans htab)
  have HCP : Hid (∀ X, Below w.heap.size w X → Calls Tryd.prog 34 #[.agg #[.int .i64 room, .slice av es.length capv]] X fun e w' => ∃ a c, e = .returned (.agg #[.int .i64 room, .slice a es.length c]) ∧ w'.ownsRow X.heap.size 50 3 (.slice a es.length c) es.length (itV es) ∧ Below X.heap.size X w') := fun X hX => implCopyStore room _ es X (hrow.below hX) hb
  have HB : Hid (type_of% hb) := hb
  have HKK : Hid (type_of% hk) := hk
  clear hrow htab hb hk
  go_enter Tryd.func20, Tryd.ntmps20
  go_wp2_with fail
  generalize ((w.alloc (.cells #[.int .i64 room, .slice av es.length capv] 29)).alloc (.cells #[.int .i64 0, .slice none 0 0] 29)) = W2 at *
  have hs0 : w.heap.size < W2.heap.size := by omega
  have hs1 : w.heap.size + 1 < W2.heap.size := by omega
  clear hzW
  have HA : Hid (∀ X : World, Below W2.heap.size W2 X → (X.cell? ⟨w.heap.size, 0, none⟩ = some (.int .i64 room) ∧ X.cell? ⟨w.heap.size, 1, none⟩ = some (.slice av es.length capv)) ∧ Below w.heap.size w X) := fun X hX => ⟨⟨(hX.cell (p := ⟨w.heap.size, 0, none⟩) hs0).trans a0, (hX.cell (p := ⟨w.heap.size, 1, none⟩) hs0).trans a1⟩, hB2.trans (hX.mono (by omega))⟩
  have HEND : Hid (∀ (w4 : World) (a : Option Addr) (c m : Nat) (L : List Itm), w4.ownsRow W2.heap.size 50 3 (.slice a m c) m (itV L) → Below W2.heap.size W2 w4 → w4.cell? ⟨w.heap.size + 1, 0, none⟩ = some (.int .i64 0) ∧ w4.cell? ⟨w.heap.size + 1, 1, none⟩ = some (.slice none 0 0) ∧ w4.frozen? ⟨w.heap.size + 1, 0, none⟩ = false ∧ w4.frozen? ⟨w.heap.size + 1, 1, none⟩ = false ∧ Hid (((w4.setCell ⟨w.heap.size + 1, 0, none⟩ (.int .i64 room)).setCell ⟨w.heap.size + 1, 1, none⟩ (.slice a m c)).cell? ⟨w.heap.size + 1, 0, none⟩ = some (.int .i64 room) ∧ ((w4.setCell ⟨w.heap.size + 1, 0, none⟩ (.int .i64 room)).setCell ⟨w.heap.size + 1, 1, none⟩ (.slice a m c)).cell? ⟨w.heap.size + 1, 1, none⟩ = some (.slice a m c) ∧ ((w4.setCell ⟨w.heap.size + 1, 0, none⟩ (.int .i64 room)).setCell ⟨w.heap.size + 1, 1, none⟩ (.slice a m c)).ownsRow w.heap.size 50 3 (.slice a m c) m (itV L) ∧ Below w.heap.size w ((w4.setCell ⟨w.heap.size + 1, 0, none⟩ (.int .i64 room)).setCell ⟨w.heap.size + 1, 1, none⟩ (.slice a m c)))) := fun w4 a c m L ho b4 => boxEnd hB2 hs1 r0 ho b4
  clear a0 a1 r0 hB2
  refine HNS.out.mono ?_
  rintro e w3 ⟨hb3, h3⟩
  obtain ⟨⟨a0, a1⟩, hbw3⟩ := HA.out w3 hb3
  have HCP3 : Hid (type_of% (HCP.out w3 hbw3)) := HCP.out w3 hbw3
  clear HNS HCP hbw3 HA
  by_cases hgo : StoreRight room es ∧ 0 ≤ n ∧ n ≤ 100
  · obtain ⟨hyes, hn0, hn1⟩ := hgo
    have HD : Hid (k = es.length - n.toNat) := HKK.out.1 ⟨hyes, hn0, hn1⟩
    rcases h3 with ⟨hno, _⟩ | ⟨_, sb, M, a, c, rfl, hNS⟩
    · exact absurd hyes hno
    · have HK0 := stkDrop W2.heap.size sb M room n a c es w3 hNS.stk hn0 (by omega) (by omega)
      have HK : Hid (type_of% HK0) := HK0
      have hz3 := hb3.size
      clear HK0 hNS hyes HCP3
      go_wp2_with fail
      refine HK.out.mono ?_
      rintro e w4 ⟨rfl, hS4, hb4⟩
      have hb24 := hb3.trans hb4
      have HS0 := stkStore W2.heap.size sb M room _ _ w4 hS4 (Nat.le_trans (its_take es _) HB.out) hb24.size
      have hlm : (es.take (es.length - n.toNat)).length = es.length - n.toNat := by simp
      rw [hlm] at HS0
      have HS : Hid (type_of% HS0) := HS0
      have hz4 := hb24.size
      clear HK HS0 hS4 hb4 hb3 hlm
      go_wp2_with fail
      refine HS.out.mono ?_
      rintro e w5 ⟨a5, c5, rfl, ho5, hb5⟩
      obtain ⟨d0, d1, f0, f1, HF⟩ := HEND.out w5 a5 c5 _ _ (itLow ho5 hz4 fun _ _ => rfl) (hb24.trans hb5)
      clear HS HEND ho5 hb5 hb24
      generalize es.length - n.toNat = m at *
      go_wp2_with fail
      obtain ⟨q0, q1, q2, q3⟩ := HF.out
      refine ret_storeDrop (b := w.heap.size + 1) rfl ⟨q0, q1⟩ ⟨a5, c5, ?_⟩
      rw [HD.out]
      exact ⟨rfl, q2, q3⟩
  · have HD : Hid (k = es.length) := HKK.out.2 hgo
    have HEND2 : Hid (∀ w4 a c, w4.ownsRow w3.heap.size 50 3 (.slice a es.length c) es.length (itV es) → Below w3.heap.size w3 w4 → _) := fun w4 a c ho b4 => HEND.out w4 a c es.length es (itLow ho hb3.size fun _ _ => rfl) (hb3.trans (b4.mono hb3.size))
    have HTK : Hid (es.take es.length = es) := List.take_of_length_le (Nat.le_refl _)
    clear HEND
    rcases h3 with ⟨hno, rfl⟩ | ⟨hyes, sb, M, a, c, rfl, _⟩
    · clear hno hgo
      go_wp2_with fail
      refine HCP3.out.mono ?_
      rintro e w4 ⟨a4, c4, rfl, ho4, hb4⟩
      obtain ⟨d0, d1, f0, f1, HF⟩ := HEND2.out w4 a4 c4 ho4 hb4
      clear HEND2 HCP3 ho4 hb4
      go_wp2_with fail
      obtain ⟨q0, q1, q2, q3⟩ := HF.out
      refine ret_storeDrop (b := w.heap.size + 1) rfl ⟨q0, q1⟩ ⟨a4, c4, ?_⟩
      rw [HD.out, HTK.out]
      exact ⟨rfl, q2, q3⟩
    · by_cases hn0 : n < 0
      · clear hgo hyes
        go_wp2_with fail
        refine HCP3.out.mono ?_
        rintro e w4 ⟨a4, c4, rfl, ho4, hb4⟩
        obtain ⟨d0, d1, f0, f1, HF⟩ := HEND2.out w4 a4 c4 ho4 hb4
        clear HEND2 HCP3 ho4 hb4
        go_wp2_with fail
        obtain ⟨q0, q1, q2, q3⟩ := HF.out
        refine ret_storeDrop (b := w.heap.size + 1) rfl ⟨q0, q1⟩ ⟨a4, c4, ?_⟩
        rw [HD.out, HTK.out]
        exact ⟨rfl, q2, q3⟩
      · have hn1 : 100 < n := by
          by_cases hq : n ≤ 100
          · exact absurd ⟨hyes, by omega, hq⟩ hgo
          · omega
        clear hgo hyes
        go_wp2_with fail
        refine HCP3.out.mono ?_
        rintro e w4 ⟨a4, c4, rfl, ho4, hb4⟩
        obtain ⟨d0, d1, f0, f1, HF⟩ := HEND2.out w4 a4 c4 ho4 hb4
        clear HEND2 HCP3 ho4 hb4
        go_wp2_with fail
        obtain ⟨q0, q1, q2, q3⟩ := HF.out
        refine ret_storeDrop (b := w.heap.size + 1) rfl ⟨q0, q1⟩ ⟨a4, c4, ?_⟩
        rw [HD.out, HTK.out]
        exact ⟨rfl, q2, q3⟩

end Go.Proofs.YtoebfpdalkpkdaaDoor
