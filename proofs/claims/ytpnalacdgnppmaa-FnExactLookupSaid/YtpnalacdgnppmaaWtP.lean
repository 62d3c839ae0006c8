/-
  How much a type and a list of types take, plainly; a list of types that is to be gone through.
-/
import Derived.Test.YtpnalacdgnppmaaTyQ
import Derived.Test.YtpnalacdgnppmaaPartsP
namespace Go.Proofs.Ytpnalacdgnppmaa
open Go.RowKit

/-- what a type takes by itself -/
def ownW (t : Ty) : Nat := 72 + t.name.size + (16 * t.names.length + Ty.textsBulk t.names)
theorem ownW_pos (t : Ty) : 1 ≤ ownW t := by unfold ownW; omega
/-- and with all that stands within it -/
def Ty.wt : Nat → Ty → Nat
  | 0, _ => 0
  | n + 1, t => ownW t + (t.kids.map (Ty.wt n)).sum
def rowWt (n : Nat) (ts : List Ty) : Nat := (ts.map (Ty.wt n)).sum
theorem rowWt_nil (n : Nat) : rowWt n [] = 0 := rfl
theorem rowWt_cons (n : Nat) (t : Ty) (ts : List Ty) : rowWt n (t :: ts) = Ty.wt n t + rowWt n ts := by simp [rowWt]
theorem wt_le (n : Nat) : ∀ t, Ty.wt n t ≤ 100 * Ty.bulk n t + 72 := by
  induction n with
  | zero => intro t; simp [Ty.wt]
  | succ n ih =>
    intro t
    rw [Ty.wt, Ty.bulk]
    have h : (t.kids.map (Ty.wt n)).sum ≤ 100 * (t.kids.map (Ty.bulk n)).sum + 72 * t.kids.length := by
      generalize t.kids = l
      induction l with
      | nil => simp
      | cons a r ihl =>
        have := ih a
        simp only [List.map_cons, List.sum_cons, List.length_cons]
        omega
    unfold ownW
    omega
/-- it is the same to whatever depth it ends -/
theorem wt_any {n m : Nat} {t : Ty} (hn : Ty.ends n t) (hm : Ty.ends m t) : Ty.wt n t = Ty.wt m t := by
  induction n generalizing m t with
  | zero => exact hn.elim
  | succ n ih =>
    cases m with
    | zero => exact hm.elim
    | succ m =>
      rw [Ty.wt, Ty.wt]
      congr 2
      refine List.map_congr_left fun k hk => ih (hn k hk) (hm k hk)

theorem size_kids (t : Ty) : SizeOf.sizeOf t.kids < SizeOf.sizeOf t := by
  cases t
  simp
  omega
theorem size_mem {t : Ty} {ts : List Ty} (h : t ∈ ts) : SizeOf.sizeOf t < SizeOf.sizeOf ts := List.sizeOf_lt_of_mem h

/-- a list of types that is to be gone through -/
structure LE where
  v : Value
  ts : List Ty
  n : Nat
def LE.fits (A : Nat → Prop) (w : World) (e : LE) : Prop := RowR A w (TyR A w e.n) e.v e.ts
/-- how many steps it may take -/
def ndRow (n : Nat) (ts : List Ty) : Nat := (ts.map fun t => (Ty.nodes n t).length).sum
def LE.cost (e : LE) : Nat := 3 * (1 + ndRow e.n e.ts)
def LE.wt (e : LE) : Nat := rowWt e.n e.ts
def sumWt (E : List LE) : Nat := (E.map LE.wt).sum
def sumCost (E : List LE) : Nat := (E.map LE.cost).sum
theorem sumWt_app (E K : List LE) : sumWt (E ++ K) = sumWt E + sumWt K := by simp [sumWt]
theorem sumCost_app (E K : List LE) : sumCost (E ++ K) = sumCost E + sumCost K := by simp [sumCost]
theorem sumWt_one (e : LE) : sumWt [e] = e.wt := by simp [sumWt]
theorem sumCost_one (e : LE) : sumCost [e] = e.cost := by simp [sumCost]
theorem len_cost (E : List LE) : E.length ≤ sumCost E := by
  induction E with
  | nil => simp
  | cons e r ih =>
    simp only [sumCost, List.map_cons, List.sum_cons, List.length_cons, LE.cost] at ih ⊢
    omega
theorem nd_le (n : Nat) (ts : List Ty) : ndRow n ts ≤ ts.length + (ts.map (Ty.bulk n)).sum := by
  unfold ndRow
  induction ts with
  | nil => simp
  | cons a r ih =>
    have := nodes_len n a
    simp only [List.map_cons, List.sum_cons, List.length_cons]
    omega

/-- one of a list's types, read -/
theorem LE.open {A : Nat → Prop} {w : World} {e : LE} (h : e.fits A w) : ∃ a cap, e.v = .slice a e.ts.length cap ∧ ∀ k (hk : k < e.ts.length), ∃ m b off vn vk, e.n = m + 1 ∧ a = some ⟨b, off, none⟩ ∧ A b ∧ (∃ cur T, w.heap[b]? = some (.cells cur T (0, 0))) ∧
    w.cell? ⟨b, off + k * 4, none⟩ = some (.int .i64 e.ts[k].kind) ∧ w.cell? ⟨b, off + k * 4 + 1, none⟩ = some (.string e.ts[k].name) ∧ w.cell? ⟨b, off + k * 4 + 2, none⟩ = some vn ∧ w.cell? ⟨b, off + k * 4 + 3, none⟩ = some vk ∧ e.ts[k].name.size ≤ maxLen ∧ TextsR A w vn e.ts[k].names ∧ LE.fits A w ⟨vk, e.ts[k].kids, m⟩ := by
  obtain ⟨v, ts, n⟩ := e
  rcases h with ⟨e, a, cap, e2⟩ | ⟨b, off, cap, e, ha, hh, hc⟩
  · have e' : ts = [] := e
    subst e'
    exact ⟨a, cap, e2, fun k hk => absurd hk (by simp)⟩
  · refine ⟨_, cap, e, fun k hk => ?_⟩
    obtain ⟨cs, h1, h2⟩ := hc k hk
    dsimp only at *
    cases n with
    | zero => exact h1.elim
    | succ n =>
      obtain ⟨vn, vk, rfl, _, q3, ⟨q4, _, _⟩, _, q8⟩ := h1
      exact ⟨n, b, off, vn, vk, rfl, rfl, ha, hh, h2 0 _ rfl, h2 1 _ rfl, h2 2 _ rfl, h2 3 _ rfl, q3, q4, q8⟩
/-- how much one type and those behind it take -/
theorem wt_step {ts : List Ty} {n m k : Nat} (hn : n = m + 1) (hk : k < ts.length) : rowWt n (ts.drop k) = ownW ts[k] + rowWt m ts[k].kids + rowWt n (ts.drop (k + 1)) := by
  rw [List.drop_eq_getElem_cons hk, rowWt_cons, hn, Ty.wt]
  rfl
theorem cost_step {ts : List Ty} {n m k : Nat} (hn : n = m + 1) (hk : k < ts.length) : ndRow n (ts.drop k) = 1 + ndRow m ts[k].kids + ndRow n (ts.drop (k + 1)) := by
  rw [List.drop_eq_getElem_cons hk]
  unfold ndRow
  rw [List.map_cons, List.sum_cons, hn, Ty.nodes, List.length_cons, List.length_flatMap]
  omega

end Go.Proofs.Ytpnalacdgnppmaa
