/-
  A result's text, plainly. No program here.
-/
import Derived.Test.YtikoacgfnojoeaaGreatDoorDiD
import Derived.Test.YtikoacgfnojoeaaGreatDoorJoinW
import Derived.Lib.ItoaLen
namespace Go.Proofs.YtikoacgfnojoeaaGreatDoor
open Go.RowKit

/-- a number's decimal text -/
def itoaB (n : Int) : ByteArray := ⟨(Lib.itoa n).toArray⟩
/-- what is told of a diag -/
def dgP (e : Dg) : List ByteArray := [⟨#[32]⟩, itoaB e.1, ⟨#[58]⟩, e.2]
def dgsP (es : List Dg) : List ByteArray := es.flatMap dgP
/-- what a text ends with -/
def rtEnd (es : List Dg) : List ByteArray := if es.length = 0 then [⟨#[32, 111, 107]⟩, ⟨#[10]⟩] else [⟨#[10]⟩]
def rtHead (rn : ByteArray) (es : List Dg) : List ByteArray := rn :: ⟨#[58]⟩ :: dgsP es
/-- the parts of a result's text -/
def rtParts (rn : ByteArray) (es : List Dg) : List ByteArray := rtHead rn es ++ rtEnd es
def rtText (rn : ByteArray) (es : List Dg) : ByteArray := ⟨(catL (rtParts rn es)).toArray⟩

theorem itoaB_size (n : Int) (h : -9223372036854775808 ≤ n ∧ n ≤ 9223372036854775807) : (itoaB n).size ≤ 21 := by
  have := Lib.itoa_length_le n h.1 h.2
  simpa [itoaB, ByteArray.size] using this
theorem dgsP_more (es : List Dg) (k : Nat) (h : k < es.length) : dgsP (es.take (k + 1)) = dgsP (es.take k) ++ dgP es[k] := by
  unfold dgsP
  rw [List.take_succ_eq_append_getElem h, List.flatMap_append]
  simp
theorem dgsP_length (es : List Dg) : (dgsP es).length = 4 * es.length := by
  unfold dgsP
  induction es with
  | nil => rfl
  | cons e r ih => rw [List.flatMap_cons, List.length_append, ih]; simp [dgP]; omega
theorem rtHead_more (rn : ByteArray) (es : List Dg) (k : Nat) (h : k < es.length) : rtHead rn (es.take (k + 1)) = rtHead rn (es.take k) ++ dgP es[k] := by
  unfold rtHead
  rw [dgsP_more es k h]
  rfl
theorem catL_dgsP (es : List Dg) (h : ∀ e ∈ es, -9223372036854775808 ≤ e.1 ∧ e.1 ≤ 9223372036854775807) : (catL (dgsP es)).length ≤ 23 * es.length + (es.map fun e => e.2.size).sum := by
  induction es with
  | nil => simp [dgsP, catL]
  | cons e r ih =>
    have h1 := ih fun x hx => h x (by simp [hx])
    have h2 := itoaB_size e.1 (h e (by simp))
    have h3 : dgsP (e :: r) = dgP e ++ dgsP r := by simp [dgsP]
    have h4 : (catL (dgP e)).length = 2 + (itoaB e.1).size + e.2.size := by
      simp only [dgP, catL, List.length_append, size_list]
      simp
      omega
    rw [h3, catL_append, List.length_append, h4]
    simp
    omega
theorem catL_rtHead (rn : ByteArray) (es : List Dg) (h : ∀ e ∈ es, -9223372036854775808 ≤ e.1 ∧ e.1 ≤ 9223372036854775807) : (catL (rtHead rn es)).length ≤ rn.size + 1 + 23 * es.length + (es.map fun e => e.2.size).sum := by
  have h1 := catL_dgsP es h
  unfold rtHead
  simp only [catL, List.length_append, size_list]
  simp
  omega
theorem catL_rtParts (rn : ByteArray) (es : List Dg) (h : ∀ e ∈ es, -9223372036854775808 ≤ e.1 ∧ e.1 ≤ 9223372036854775807) : (catL (rtParts rn es)).length ≤ rn.size + 5 + 23 * es.length + (es.map fun e => e.2.size).sum := by
  have h1 := catL_rtHead rn es h
  unfold rtParts
  rw [catL_append, List.length_append]
  have h2 : (catL (rtEnd es)).length ≤ 4 := by
    unfold rtEnd
    split <;> simp [catL]
  omega
theorem rtHead_length (rn : ByteArray) (es : List Dg) : (rtHead rn es).length = 2 + 4 * es.length := by
  unfold rtHead
  simp [dgsP_length]
  omega
theorem rtParts_length (rn : ByteArray) (es : List Dg) : (rtParts rn es).length ≤ 4 + 4 * es.length := by
  unfold rtParts
  rw [List.length_append, rtHead_length]
  have h2 : (rtEnd es).length ≤ 2 := by
    unfold rtEnd
    split <;> simp
  omega
theorem cat_bytes (a b : List UInt8) : (⟨a.toArray⟩ : ByteArray) ++ ⟨b.toArray⟩ = ⟨(a ++ b).toArray⟩ := by
  apply ByteArray.ext
  simp
theorem cat_round (c : List UInt8) (I C : ByteArray) : ((((⟨c.toArray⟩ : ByteArray) ++ ⟨#[32]⟩) ++ I) ++ ⟨#[58]⟩) ++ C = ⟨(c ++ catL [⟨#[32]⟩, I, ⟨#[58]⟩, C]).toArray⟩ := by
  apply ByteArray.ext
  simp [catL]
theorem cat_end0 (c : List UInt8) : ((⟨c.toArray⟩ : ByteArray) ++ ⟨#[32, 111, 107]⟩) ++ ⟨#[10]⟩ = ⟨(c ++ catL [⟨#[32, 111, 107]⟩, ⟨#[10]⟩]).toArray⟩ := by
  apply ByteArray.ext
  simp [catL]
theorem cat_end1 (c : List UInt8) : (⟨c.toArray⟩ : ByteArray) ++ ⟨#[10]⟩ = ⟨(c ++ catL [⟨#[10]⟩]).toArray⟩ := by
  apply ByteArray.ext
  simp [catL]
theorem cat_begin (rn : ByteArray) : rn ++ ⟨#[58]⟩ = ⟨(catL (rtHead rn [])).toArray⟩ := by
  apply ByteArray.ext
  apply Array.toList_inj.1
  simp [catL, rtHead, dgsP]

end Go.Proofs.YtikoacgfnojoeaaGreatDoor
