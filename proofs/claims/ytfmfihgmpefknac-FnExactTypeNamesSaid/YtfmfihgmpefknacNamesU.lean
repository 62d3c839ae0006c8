/-
  The walk of impl.TypeNames: the names in a type, ascending, each once, in new memory.
-/
import Derived.Test.YtfmfihgmpefknacPartsW
import Derived.Test.YtfmfihgmpefknacTyN
import Derived.Test.YtfmfihgmpefknacCloneLib
import Derived.Test.YtfmfihgmpefknacSortLib
import Derived.Sort.OwnSorted
import Derived.Sort.Grow
import Derived.Lib.OwnBridge
namespace Go.Proofs.Ytfmfihgmpefknac
open Go.RowKit Go.Sort Go.Shelf

def keysOf (zs : List ByteArray) : List (List UInt8) := zs.map (·.data.toList)
def ofKeys (ss : List (List UInt8)) : List ByteArray := ss.map fun l => ⟨l.toArray⟩
theorem keys_enc (zs : List ByteArray) : (keysOf zs).map encStr = strV zs := by
  have := Lib.map_encStr zs
  unfold keysOf strV
  rw [this]
theorem enc_keys (ss : List (List UInt8)) : ss.map encStr = strV (ofKeys ss) := by
  unfold ofKeys strV
  rw [List.map_map]
  rfl
theorem asc_ofKeys {ss : List (List UInt8)} (h : ss.Pairwise (· < ·)) : Asc (ofKeys ss) := by
  unfold Asc ofKeys
  rw [List.pairwise_map]
  exact h.imp fun hab => by unfold bl; simpa using hab
theorem mem_ofKeys {ss : List (List UInt8)} {x : ByteArray} : x ∈ ofKeys ss ↔ x.data.toList ∈ ss := by
  unfold ofKeys
  rw [List.mem_map]
  constructor
  · rintro ⟨l, hl, rfl⟩; simpa using hl
  · intro h; exact ⟨_, h, ba_inj (by simp)⟩
theorem mem_keysOf {zs : List ByteArray} {x : ByteArray} : x.data.toList ∈ keysOf zs ↔ x ∈ zs := by
  unfold keysOf
  rw [List.mem_map]
  constructor
  · rintro ⟨y, hy, e⟩; rw [← ba_inj e]; exact hy
  · intro h; exact ⟨x, h, rfl⟩

/-- sorted, and alike ones once -/
def uniq (zs : List ByteArray) : List ByteArray := ofKeys (Lib.compact ((keysOf zs).mergeSort fun x y => decide (x ≤ y)))
theorem uniq_asc (zs : List ByteArray) : Asc (uniq zs) := asc_ofKeys (compact_sorted _).1
theorem uniq_mem (zs : List ByteArray) (x : ByteArray) : x ∈ uniq zs ↔ x ∈ zs := by
  unfold uniq
  rw [mem_ofKeys, (compact_sorted _).2, mem_keysOf]
theorem uniq_len (zs : List ByteArray) : (uniq zs).length ≤ zs.length := by
  unfold uniq ofKeys
  rw [List.length_map]
  have h1 := Lib.compact_length_le ((keysOf zs).mergeSort fun x y => decide (x ≤ y))
  have h2 : ((keysOf zs).mergeSort fun x y => decide (x ≤ y)).length = (keysOf zs).length := List.length_mergeSort _
  have h3 : (keysOf zs).length = zs.length := List.length_map ..
  omega

theorem uniq_end {B g cap nn q : Nat} {w w1 : World} {os : Array Obj} {zs : List ByteArray} (hown : w1.ownsRow B 9 1 (.slice (some ⟨g, 0, none⟩) zs.length cap) zs.length (strV zs)) (hbel : Below B w w1) (hB : B ≤ w1.heap.size) :
    (putRow encStr (Sort.ahead (grow (putRow encStr (Sort.ahead w1 nn) g 0 ((keysOf zs).mergeSort fun x y => decide (x ≤ y)).toArray) os) q) g 0 (Lib.compact ((keysOf zs).mergeSort fun x y => decide (x ≤ y)) ++ List.replicate (zs.length - (Lib.compact ((keysOf zs).mergeSort fun x y => decide (x ≤ y))).length) []).toArray).ownsRow B 9 1 (.slice (some ⟨g, 0, none⟩) (uniq zs).length cap) (uniq zs).length (strV (uniq zs)) ∧
    Below B w (putRow encStr (Sort.ahead (grow (putRow encStr (Sort.ahead w1 nn) g 0 ((keysOf zs).mergeSort fun x y => decide (x ≤ y)).toArray) os) q) g 0 (Lib.compact ((keysOf zs).mergeSort fun x y => decide (x ≤ y)) ++ List.replicate (zs.length - (Lib.compact ((keysOf zs).mergeSort fun x y => decide (x ≤ y))).length) []).toArray) := by
  have hl3 : (keysOf zs).length = zs.length := List.length_map ..
  have hu : (uniq zs).length = (Lib.compact ((keysOf zs).mergeSort fun x y => decide (x ≤ y))).length := by unfold uniq ofKeys; rw [List.length_map]
  have hs2 : strV (uniq zs) = (Lib.compact ((keysOf zs).mergeSort fun x y => decide (x ≤ y))).map encStr := (enc_keys _).symm
  have hl2 : ((keysOf zs).mergeSort fun x y => decide (x ≤ y)).length = (keysOf zs).length := List.length_mergeSort _
  have hle := Lib.compact_length_le ((keysOf zs).mergeSort fun x y => decide (x ≤ y))
  rw [hs2, hu]
  rw [← keys_enc, ← hl3] at hown
  rw [← hl3]
  generalize keysOf zs = ss at *
  rcases hown.2 with ⟨h0, _⟩ | ⟨g', cap', cur, hv, hbase, hb, h1, h2, h3, h4⟩
  · cases h0
  cases hv
  have hs := ownsRow_sorted (n := nn) (os := os) (ts := ss.mergeSort fun x y => decide (x ≤ y)) hl2 hbase hb h1 h2 h3
  have hc := Lib.ownsRow_putRow (q := q) (k := (Lib.compact (ss.mergeSort fun x y => decide (x ≤ y))).length) (ys := Lib.compact (ss.mergeSort fun x y => decide (x ≤ y)) ++ List.replicate (ss.length - (Lib.compact (ss.mergeSort fun x y => decide (x ≤ y))).length) []) hs (by simp; omega) (by omega)
  rw [List.take_left] at hc
  exact ⟨hc, Lib.below_putRow (hbel.grown (grownBy_sorted _) hB (fun j hj => by cases hj; exact hbase)) hbase⟩

end Go.Proofs.Ytfmfihgmpefknac
