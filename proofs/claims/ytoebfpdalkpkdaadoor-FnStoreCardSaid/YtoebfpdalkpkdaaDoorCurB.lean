/-
  The walks of the draws l01PickInt and l01Bytes.
-/
import Derived.Test.YtoebfpdalkpkdaaDoorCurW
import Derived.Test.YtoebfpdalkpkdaaDoorPutNumW
namespace Go.Proofs.YtoebfpdalkpkdaaDoor
open Go.RowKit

/-- numbers of a literal lie in its new block -/
theorem cells_lit (w : World) (zs : List Int) (T : Nat) : ∀ j (h : j < zs.length), (w.alloc (.cells (zs.map (Value.int .i64)).toArray T)).cell? ⟨w.heap.size, j, none⟩ = some (.int .i64 zs[j]) := fun j h => by
  rw [Lib.cell_of_heap (heap_alloc_new w _) j]
  simp [h]

theorem Cur.lt {B : Nat} {w : World} {cb : Nat} {a : Option Addr} {len cap : Nat} (h : Cur B w cb a len cap) : cb < w.heap.size := by
  obtain ⟨i, hh, _, _, hc⟩ := h.cur
  exact lt_of_heap hc
theorem Cur.alloc {B : Nat} {w : World} {cb : Nat} {a : Option Addr} {len cap : Nat} (h : Cur B w cb a len cap) (o : Obj) : Cur B (w.alloc o) cb a len cap :=
  h.kept ((Below.refl _ _).alloc (by have := h.lt; have := h.here; omega) o) (Below.heap_alloc w o cb h.lt)
theorem Cur.below {B : Nat} {w w' : World} {cb : Nat} {a : Option Addr} {len cap : Nat} (h : Cur B w cb a len cap) (hg : w.grownBy w' (some cb)) : Below B w w' :=
  (Below.refl B w).grown hg (by have := h.lt; have := h.here; omega) (fun k hk => by cases hk; exact h.here)

set_option maxHeartbeats 400000 in
theorem drawPick (B cb lb : Nat) (a : Option Addr) (len cap : Nat) (w : World) (zs : List Int) (hC : Cur B w cb a len cap) (hne : lb ≠ cb) (h0 : 1 ≤ zs.length) (h1 : zs.length ≤ 256)
    (hcell : ∀ j (h : j < zs.length), w.cell? ⟨lb, j, none⟩ = some (.int .i64 zs[j])) :
    Calls Tryd.prog 46 #[.pointer (some ⟨cb, 0, none⟩), .slice (some ⟨lb, 0, none⟩) zs.length zs.length] w fun e w' => ∃ z : Int, e = .returned (.int .i64 z) ∧ z ∈ zs ∧ Cur B w' cb a len cap ∧ w.grownBy w' (some cb) := by
  have HC : Hid (Cur B w cb a len cap) := hC
  have HZ : Hid (∀ j (h : j < zs.length), w.cell? ⟨lb, j, none⟩ = some (.int .i64 zs[j])) := hcell
  clear hC hcell
  go_enter Tryd.func46, Tryd.ntmps46
  go_wp2_with fail
  refine (drawBelow B cb a len cap _ _ HC.out (by omega)).mono ?_
  rintro e w1 ⟨x, rfl, hx0, hx1, _, hC1, hg1⟩
  have hx2 := hx1 (by omega)
  obtain ⟨k, rfl⟩ := Int.eq_ofNat_of_zero_le hx0
  have hk : k < zs.length := by omega
  have hc1 : w1.cell? ⟨lb, k, none⟩ = some (.int .i64 zs[k]) := hg1.cell (HZ.out k hk) (fun h => hne (Option.some.inj h))
  have HC1 : Hid (Cur B w1 cb a len cap ∧ w.grownBy w1 (some cb)) := ⟨hC1, hg1⟩
  have HM : Hid (zs[k] ∈ zs) := List.getElem_mem hk
  generalize zs[k] = z at *
  clear hC1 hg1 HC HZ hx1
  go_wp2
  go_ret
  exact ⟨z, rfl, HM.out, HC1.out.1, HC1.out.2⟩

/-- a text out of a row that is owned, an empty one too -/
theorem conv_any {P : Program} {B e src dst : Nat} {w1 : World} {v : Value} {l : List Nat} (hs : P.underlying src = some (.slice e)) (he : P.underlying e = some (.int .u8)) (hd : P.underlying dst = some .string)
    (hown : w1.ownsRow B e 1 v l.length (cellsOf l)) : (convert src dst v).run P w1 = .ok (.string (strOfNums (ints l))) w1 := by
  have h0 := hown
  rcases hown.2 with ⟨rfl, h⟩ | ⟨g, cap, cur, rfl, hg, hh, hnc, hcp, hcs, htake⟩
  · have hl : l = [] := List.length_eq_zero_iff.1 h
    subst hl
    exact run_convert_bytes_nil w1 src e hs he 0 0 dst hd
  · refine run_convert_bytes_arg w1 src e hs he g 0 l.length cap (ints l) (by simp [ints]) (fun i hi => ?_) dst hd
    rw [Nat.zero_add]
    have := h0.cellAt i (by simpa using hi)
    rw [this]
    simp [cellsOf, ints, hi]

set_option maxHeartbeats 400000 in
theorem drawBytes (B cb : Nat) (a : Option Addr) (len cap : Nat) (w : World) (n : Nat) (hC : Cur B w cb a len cap) (hn : n ≤ 1000000) :
    Calls Tryd.prog 66 #[.pointer (some ⟨cb, 0, none⟩), .int .i64 n] w fun e w' => ∃ s : ByteArray, e = .returned (.string s) ∧ s.size = n ∧ Cur B w' cb a len cap ∧ w.grownBy w' (some cb) := by
  obtain ⟨i0, hi, hz0, hz1, hz2⟩ := info_parts Tryd.infoByte
  have hlt0 := hC.lt
  have HC : Hid (Cur B w cb a len cap) := hC
  clear hC
  go_enter Tryd.func66, Tryd.ntmps66
  go_wp2
  go_loopw [5, 6] (fun v i wr => ∃ (l : List Nat), l.length ≤ n ∧ i = .int .i64 (l.length : Nat) ∧ wr.ownsRow w.heap.size 5 1 v l.length (cellsOf l) ∧ Cur B wr cb a len cap ∧ w.grownBy wr (some cb)) (fun _ i _ => n - (intOf i).toNat)
  case atStart => exact ⟨[], Nat.zero_le _, rfl, World.ownsRow_made w #[] 0 (Nat.le_refl _) (by decide) rfl, HC.out.alloc _, World.grownBy_alloc _ _ _⟩
  case round =>
    obtain ⟨l, hl, rfl, hown, hcur, hgr⟩ := hrel
    have HCr : Hid (Cur B wr cb a len cap) := hcur
    have HGr : Hid (w.grownBy wr (some cb)) := hgr
    have hszr := hgr.size
    clear hcur hgr
    by_cases hlt : l.length < n
    · go_wp2_with fail
      refine (drawBelow B cb a len cap _ 256 HCr.out (by omega)).mono ?_
      rintro e w2 ⟨x, rfl, hx0, hx1, _, hC2, hg2⟩
      have hx2 := hx1 (by omega)
      obtain ⟨b, rfl⟩ := Int.eq_ofNat_of_zero_le hx0
      have hne2 : u5.ownBlock = none ∨ u5.ownBlock ≠ some cb := .inr (fun h => by have := (hown.lt cb h).1; omega)
      have hown2 := hown.kept hg2 hne2
      have HC2 : Hid (Cur B w2 cb a len cap) := hC2
      have HG2 : Hid (w.grownBy w2 (some cb)) := grown_trans HGr.out hg2
      have hsz2 : w.heap.size ≤ w2.heap.size := Nat.le_trans hszr hg2.size
      clear hC2 hg2 hx1 hown HCr HGr hne2
      go_wp2_with (at_builtin; refine wpList_append_own _ rfl _ _ 41 rfl w.heap.size 5 i0 (.int .u8 0) 1 1 Tryd.underlying41 hi hz0 hz1 hz2 rfl (by decide) _ _ _ rfl (hown2.alloc _) ⟨w2.heap.size, 0, none⟩ 1 1 [.int .u8 (b : Int)] rfl rfl (cell_one_new _ _ _) ?c2 ?c3 ?c4 ?c5 ?_)
      case c2 => intro u hu; simp at hu; subst hu; rfl
      case c3 => unfold maxLen; omega
      case c4 => omega
      case c5 => simp; omega
      intro v' w3 hown' hgrow _
      have R1 : w3.ownsRow w.heap.size 5 1 v' (l ++ [b]).length (cellsOf (l ++ [b])) := by simpa [cellsOf, ints] using hown'
      have hblk : ∀ k, k < w.heap.size → w3.heap[k]? = w2.heap[k]? := fun k hk =>
        (hgrow.block k (by simp; omega) (fun e => by have := (hown2.lt k e.symm).1; omega)).trans (Below.heap_alloc w2 _ k (by omega))
      have hle3 : w2.heap.size ≤ w3.heap.size := by have := hgrow.size; simp at this; omega
      have R3 : w.grownBy w3 (some cb) := ⟨hgrow.os.trans HG2.out.os, hgrow.tape.trans HG2.out.tape, hgrow.output.trans HG2.out.output, Nat.le_trans hsz2 hle3, fun k hk hr => (hblk k hk).trans (HG2.out.block k hk hr)⟩
      have R2 : Cur B w3 cb a len cap := HC2.out.kept ⟨hgrow.os, hgrow.tape, hgrow.output, hle3, fun k hk => hblk k (by have := HC.out.here; omega)⟩ (hblk cb hlt0)
      clear hown' hgrow hown2 HC2 HG2 hblk hle3 hsz2
      go_wp2
      go_roundw
      case rel => exact ⟨l ++ [b], by simp; omega, by simp, R1, R2, R3⟩
      case measure => simp [intOf]; omega
    · have hln : l.length = n := by omega
      have hcv := conv_any (dst := 9) Tryd.underlying41 Tryd.underlying5 Tryd.underlying9 hown
      have HSz : Hid ((strOfNums (ints l)).size = n) := by show _ = _; rw [strOfNums_size]; simp [ints]; omega
      generalize strOfNums (ints l) = S at *
      clear hown hln
      go_wp2
      go_ret
      exact ⟨S, rfl, HSz.out, HCr.out, HGr.out⟩

end Go.Proofs.YtoebfpdalkpkdaaDoor
