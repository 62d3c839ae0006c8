/-
  The walks of the draws l01Pick, DrawIsWord, DrawNameOk and DrawLex. What a draw gives is not told, but its size is bounded.
-/
import Derived.Test.YtoebfpdalkpkdaaDoorCurW
import Derived.Test.YtoebfpdalkpkdaaDoorTextsD
namespace Go.Proofs.YtoebfpdalkpkdaaDoor
open Go.RowKit

/-- what is known of the bytes that a draw goes by -/
structure CodeL (w : World) (a : Option Addr) (len : Nat) : Prop where
  low : ∀ b off, a = some ⟨b, off, none⟩ → 0 < len → b < w.heap.size
  code : Code w a len
  size : len ≤ 1048576
theorem CodeL.below {w w' : World} {a : Option Addr} {len : Nat} (h : CodeL w a len) (hb : Below w.heap.size w w') : CodeL w' a len :=
  ⟨fun b off e hp => Nat.lt_of_lt_of_le (h.low b off e hp) hb.size, h.code.below h.low hb, h.size⟩

theorem Cur.ltC {B : Nat} {w : World} {cb : Nat} {a : Option Addr} {len cap : Nat} (h : Cur B w cb a len cap) : cb < w.heap.size := by
  obtain ⟨i, hh, _, _, hc⟩ := h.cur
  exact lt_of_heap hc
theorem Cur.allocC {B : Nat} {w : World} {cb : Nat} {a : Option Addr} {len cap : Nat} (h : Cur B w cb a len cap) (o : Obj) : Cur B (w.alloc o) cb a len cap :=
  h.kept ((Below.refl _ _).alloc (by have := h.ltC; have := h.here; omega) o) (Below.heap_alloc w o cb h.ltC)
theorem Cur.belowC {B : Nat} {w w' : World} {cb : Nat} {a : Option Addr} {len cap : Nat} (h : Cur B w cb a len cap) (hg : w.grownBy w' (some cb)) : Below B w w' :=
  (Below.refl B w).grown hg (by have := h.ltC; have := h.here; omega) (fun k hk => by cases hk; exact h.here)

set_option maxHeartbeats 400000 in
theorem drawPickS (B cb lb : Nat) (a : Option Addr) (len cap : Nat) (w : World) (ts : List ByteArray) (hC : Cur B w cb a len cap) (hne : lb ≠ cb) (h0 : 1 ≤ ts.length) (h1 : ts.length ≤ 256)
    (hcell : ∀ j (h : j < ts.length), w.cell? ⟨lb, j, none⟩ = some (.string ts[j])) :
    Calls Tryd.prog 45 #[.pointer (some ⟨cb, 0, none⟩), .slice (some ⟨lb, 0, none⟩) ts.length ts.length] w fun e w' => ∃ t : ByteArray, e = .returned (.string t) ∧ t ∈ ts ∧ Cur B w' cb a len cap ∧ w.grownBy w' (some cb) := by
  have HC : Hid (Cur B w cb a len cap) := hC
  have HZ : Hid (∀ j (h : j < ts.length), w.cell? ⟨lb, j, none⟩ = some (.string ts[j])) := hcell
  clear hC hcell
  go_enter Tryd.func45, Tryd.ntmps45
  go_wp2_with fail
  refine (drawBelow B cb a len cap _ _ HC.out (by omega)).mono ?_
  rintro e w1 ⟨x, rfl, hx0, hx1, _, hC1, hg1⟩
  have hx2 := hx1 (by omega)
  obtain ⟨k, rfl⟩ := Int.eq_ofNat_of_zero_le hx0
  have hk : k < ts.length := by omega
  have hc1 : w1.cell? ⟨lb, k, none⟩ = some (.string ts[k]) := hg1.cell (HZ.out k hk) (fun h => hne (Option.some.inj h))
  have HC1 : Hid (Cur B w1 cb a len cap ∧ w.grownBy w1 (some cb)) := ⟨hC1, hg1⟩
  have HM : Hid (ts[k] ∈ ts) := List.getElem_mem hk
  generalize ts[k] = z at *
  clear hC1 hg1 HC HZ hx1
  go_wp2
  go_ret
  exact ⟨z, rfl, HM.out, HC1.out.1, HC1.out.2⟩

theorem str_cells (w : World) (ts : List ByteArray) (T : Nat) : ∀ j (h : j < ts.length), (w.alloc (.cells (strV ts).toArray T)).cell? ⟨w.heap.size, j, none⟩ = some (.string ts[j]) := fun j h => by
  have hj : j < (strV ts).toArray.size := by simp [strV, h]
  simp [strV, h]

/-- a pick out of a literal of texts: it is laid, and picked from -/
theorem pickLit (B cb : Nat) (a : Option Addr) (len cap : Nat) (w : World) (ts : List ByteArray) (hC : Cur B w cb a len cap) (h0 : 1 ≤ ts.length) (h1 : ts.length ≤ 256) (m : Nat) (hm : ∀ t ∈ ts, t.size ≤ m) :
    Calls Tryd.prog 45 #[.pointer (some ⟨cb, 0, none⟩), .slice (some ⟨w.heap.size, 0, none⟩) ts.length ts.length] (w.alloc (.cells (strV ts).toArray 9)) fun e w' => ∃ t : ByteArray, e = .returned (.string t) ∧ t.size ≤ m ∧ Cur B w' cb a len cap ∧ Below B w w' := by
  have hlt := hC.ltC
  refine (drawPickS B cb w.heap.size a len cap _ ts (hC.allocC _) (by omega) h0 h1 (str_cells w ts _)).mono ?_
  rintro e w' ⟨t, he, ht, hC', hg⟩
  exact ⟨t, he, hm t ht, hC', ((Below.refl B w).alloc (by have := hC.here; omega) _).trans ((hC.allocC _).belowC hg)⟩

def drawWordsL : List ByteArray := [⟨#[105, 109, 112, 111, 114, 116]⟩, ⟨#[116, 121, 112, 101]⟩, ⟨#[108, 101, 116]⟩, ⟨#[102, 110]⟩, ⟨#[105, 102]⟩, ⟨#[116, 104, 101, 110]⟩, ⟨#[101, 108, 115, 101]⟩, ⟨#[105, 110]⟩, ⟨#[116, 114, 117, 101]⟩, ⟨#[102, 97, 108, 115, 101]⟩, ⟨#[105, 110, 116]⟩, ⟨#[116, 101, 120, 116]⟩, ⟨#[98, 111, 111, 108]⟩, ⟨#[97, 110, 121]⟩, ⟨#[120]⟩, ⟨#[]⟩, ⟨#[73, 110, 116]⟩]
def drawNamesL : List ByteArray := [⟨#[97]⟩, ⟨#[98, 49]⟩, ⟨#[49, 97]⟩, ⟨#[]⟩, ⟨#[108, 101, 116]⟩, ⟨#[97, 98, 99, 100, 101, 102, 103, 104, 105, 106, 107, 108]⟩, ⟨#[97, 98, 99, 100, 101, 102, 103, 104, 105, 106, 107, 108, 109]⟩, ⟨#[65]⟩, ⟨#[97, 95, 98]⟩]
def drawBitsL : List ByteArray := [⟨#[120]⟩, ⟨#[108, 101, 116]⟩, ⟨#[105, 110, 116]⟩, ⟨#[49, 50]⟩, ⟨#[34, 97, 32, 98, 34]⟩, ⟨#[45, 62]⟩, ⟨#[61, 61]⟩, ⟨#[61]⟩, ⟨#[58]⟩, ⟨#[124]⟩, ⟨#[123]⟩, ⟨#[125]⟩, ⟨#[40]⟩, ⟨#[41]⟩, ⟨#[46]⟩, ⟨#[44]⟩, ⟨#[43]⟩, ⟨#[35, 32, 99, 10]⟩, ⟨#[10]⟩, ⟨#[32]⟩, ⟨#[97, 98, 99, 100, 101, 102, 103, 104, 105, 106, 107, 108]⟩]
def drawBadL : List ByteArray := [⟨#[33]⟩, ⟨#[45]⟩, ⟨#[34, 97]⟩, ⟨#[34, 92, 34]⟩, ⟨#[49, 50, 51, 52, 53, 54, 55, 56, 57, 48]⟩, ⟨#[97, 98, 99, 100, 101, 102, 103, 104, 105, 106, 107, 108, 109]⟩, ⟨#[9]⟩, ⟨#[34, 97, 10, 98, 34]⟩]
theorem sizeB (l : List ByteArray) (m : Nat) (h : (l.all fun t => decide (t.size ≤ m)) = true) : ∀ t ∈ l, t.size ≤ m := fun t ht => of_decide_eq_true (List.all_eq_true.1 h t ht)

end Go.Proofs.YtoebfpdalkpkdaaDoor
