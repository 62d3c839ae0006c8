/-
  The body of the law of Union: what it leans on.
-/
import Derived.Test.YtjihkebafoajdaaGreatDoorUnI
import Derived.Test.YtjihkebafoajdaaGreatDoorUnV
import Derived.Test.YtjihkebafoajdaaGreatDoorLayM
namespace Go.Proofs.YtjihkebafoajdaaGreatDoor
open Go.RowKit

/-- nothing has turned but blocks of which that is said, and new ones -/
def KeepB (ex : Nat → Prop) (W wx : World) : Prop := W.heap.size ≤ wx.heap.size ∧ ∀ b, b < W.heap.size → ¬ ex b → wx.heap[b]? = W.heap[b]?
theorem KeepB.below {ex : Nat → Prop} {W wx wy : World} (h : KeepB ex W wx) (hb : Below wx.heap.size wx wy) : KeepB ex W wy := ⟨Nat.le_trans h.1 hb.size, fun b hl he => (hb.block b (Nat.lt_of_lt_of_le hl h.1)).trans (h.2 b hl he)⟩
theorem KeepB.only {ex : Nat → Prop} {W wx wy : World} {lo hi : Nat} (h : KeepB ex W wx) (ho : Only lo hi wx wy) (he : ∀ b, lo ≤ b → b < hi → ex b) : KeepB ex W wy := ⟨Nat.le_trans h.1 ho.size, fun b hl hx => (ho.block b (Nat.lt_of_lt_of_le hl h.1) (by
  by_cases c : b < lo
  · exact .inl c
  · by_cases c2 : hi ≤ b
    · exact .inr c2
    · exact absurd (he b (by omega) (by omega)) hx)).trans (h.2 b hl hx)⟩
theorem KeepB.onlyL {ex : Nat → Prop} {W wx wy : World} {bl : List Nat} (h : KeepB ex W wx) (ho : OnlyL bl wx wy) (he : ∀ b ∈ bl, ex b) : KeepB ex W wy := ⟨Nat.le_trans h.1 ho.size, fun b hl hx => (ho.block b (Nat.lt_of_lt_of_le hl h.1) fun hm => hx (he b hm)).trans (h.2 b hl hx)⟩
theorem KeepB.mono {ex ex' : Nat → Prop} {W wx : World} (h : KeepB ex W wx) (he : ∀ b, ex b → ex' b) : KeepB ex' W wx := ⟨h.1, fun b hl hx => h.2 b hl fun q => hx (he b q)⟩

/-- the types of an answer are of sizes that memory can have -/
theorem zero_sized (n : Nat) : Ty.sized (n + 1) (.mk 0 ⟨#[]⟩ [] []) := ⟨⟨by show (-9223372036854775808 : Int) ≤ 0; omega, by show (0 : Int) ≤ 9223372036854775807; omega⟩, by show (0 : Nat) ≤ _; omega, ⟨by show (0 : Nat) ≤ _; omega, fun x hx => by simp at hx⟩, by show (0 : Nat) ≤ _; omega, fun k hk => by simp at hk⟩
theorem any_sized (n : Nat) : Ty.sized (n + 1) (.mk 3 ⟨#[]⟩ [] []) := ⟨⟨by show (-9223372036854775808 : Int) ≤ 3; omega, by show (3 : Int) ≤ 9223372036854775807; omega⟩, by show (0 : Nat) ≤ _; omega, ⟨by show (0 : Nat) ≤ _; omega, fun x hx => by simp at hx⟩, by show (0 : Nat) ≤ _; omega, fun x hx => by simp at hx⟩
theorem un_sized {n : Nat} {ts : List Ty} {t : Ty} {ok : Bool} (h : UAns n ts t ok) (hs : ∀ q ∈ ts, Ty.sized n q) (hbk : rowBulk n ts ≤ 1048576) : Ty.sized (n + 1) t ∧ Ty.bulk (n + 1) t ≤ 1048576 := by
  have z0 : Ty.bulk (n + 1) (.mk 0 ⟨#[]⟩ [] []) ≤ 1048576 := by show (0 : Nat) + (0 + 0) + (0 + 0) ≤ _; omega
  have z3 : Ty.bulk (n + 1) (.mk 3 ⟨#[]⟩ [] []) ≤ 1048576 := by show (0 : Nat) + (0 + 0) + (0 + 0) ≤ _; omega
  rcases h with ⟨_, rfl, _⟩ | ⟨⟨_, hr⟩, ⟨_, _, rfl⟩ | ⟨_, S, hU, ⟨_, _, hS⟩ | ⟨_, _, _, rfl⟩ | ⟨_, _, _, rfl⟩⟩⟩
  · exact ⟨zero_sized n, z0⟩
  · exact ⟨any_sized n, z3⟩
  · have hx := atom_facts hr hs (by omega) ((hU.1 t).1 (by rw [hS]; simp))
    have hb := hU.bulk hr
    rw [hS] at hb
    simp only [List.map_cons, List.map_nil, List.sum_cons, List.sum_nil, List.length_cons, List.length_nil] at hb
    unfold rowBulk at hbk
    exact ⟨sized_up hx.2.1, by rw [bulk_up hx.1]; omega⟩
  · have hb := hU.bulk hr
    have e9 : Ty.bulk (n + 1) (.mk 7 ⟨#[]⟩ [] S) = 0 + (0 + 0) + (S.length + (S.map (Ty.bulk n)).sum) := rfl
    unfold rowBulk at hbk
    exact ⟨union_sized (fun s hs' => (atom_facts hr hs (by unfold rowBulk; omega) ((hU.1 s).1 hs')).2.1) (by omega), by omega⟩
  · exact ⟨zero_sized n, z0⟩
theorem row_sized {w : World} {n : Nat} {v : Value} {ks : List Ty} (h : RowAt w (TyAt w n) v ks) : ∀ q ∈ ks, Ty.sized n q := fun q hq => by
  rcases h with ⟨e, _⟩ | ⟨b, off, cap, _, hc⟩
  · rw [e] at hq; simp at hq
  · obtain ⟨j, hj, rfl⟩ := List.getElem_of_mem hq
    obtain ⟨cs, h1, _⟩ := hc j hj
    exact h1.sized

/-- an answer's cells, told -/
theorem lay_cells {w : World} {n : Nat} {l : Lay} {t : Ty} (h : LayAt w (n + 1) l t) : ∃ an cn ak ck, l.vn = .slice an t.names.length cn ∧ l.vk = .slice ak t.kids.length ck ∧ (cellsK t l).toArray = #[.int .i64 t.kind, .string t.name, .slice an t.names.length cn, .slice ak t.kids.length ck] := by
  obtain ⟨an, cn, e1⟩ := h.1.slice
  obtain ⟨ak, ck, e2⟩ := h.2.2.1.slice
  exact ⟨an, cn, ak, ck, e1, e2, by unfold cellsK; rw [e1, e2]⟩

end Go.Proofs.YtjihkebafoajdaaGreatDoor
