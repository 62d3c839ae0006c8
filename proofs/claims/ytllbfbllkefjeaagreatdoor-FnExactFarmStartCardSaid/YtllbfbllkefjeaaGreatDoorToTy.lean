/-
  The walks of the laws' own helpers toType and toTypeS: a copy in new memory.
  The walks of the laws' own helpers toNamed and toNamedS: a copy in new memory.
-/
import Derived.Test.YtllbfbllkefjeaaGreatDoorTextsW
import Derived.Test.YtllbfbllkefjeaaGreatDoorNmD
namespace Go.Proofs.YtllbfbllkefjeaaGreatDoor
open Go.RowKit

/-- from block B on nothing of what was there has turned -/
def Above (B : Nat) (w w' : World) : Prop := w.heap.size ≤ w'.heap.size ∧ ∀ b, B ≤ b → b < w.heap.size → w'.heap[b]? = w.heap[b]?
theorem Above.refl (B : Nat) (w : World) : Above B w w := ⟨Nat.le_refl _, fun _ _ _ => rfl⟩
theorem Above.trans {B : Nat} {a b c : World} (h : Above B a b) (k : Above B b c) : Above B a c := ⟨Nat.le_trans h.1 k.1, fun i h1 h2 => (k.2 i h1 (Nat.lt_of_lt_of_le h2 h.1)).trans (h.2 i h1 h2)⟩
theorem Above.mono {B B' : Nat} {a b : World} (h : Above B a b) (hB : B ≤ B') : Above B' a b := ⟨h.1, fun i h1 h2 => h.2 i (Nat.le_trans hB h1) h2⟩
theorem Above.of_below {B : Nat} {w w' : World} (h : Below w.heap.size w w') : Above B w w' := ⟨h.size, fun b _ h2 => h.block b h2⟩
theorem Above.set {B : Nat} (w : World) (a : Addr) (u : Value) (h : a.block < B) : Above B w (w.setCell a u) := ⟨by simp, fun b h1 _ => Below.heap_setCell w a u b (by omega)⟩

/-- the value is a slice whose elements, of four cells each, are such, and lies from block lo up to hi; what its elements lead to lies behind it, one behind the other -/
def RowIn (w : World) (R : Nat → Nat → List Value → Ty → Prop) (lo hi : Nat) (v : Value) (ts : List Ty) : Prop :=
  ∃ b cap, v = .slice (some ⟨b, 0, none⟩) ts.length cap ∧ lo ≤ b ∧ b < hi ∧ (∃ cur e, w.heap[b]? = some (.cells cur e (0, 0))) ∧ ∃ L : Nat → Nat, (∀ j, j ≤ ts.length → b < L j ∧ L j ≤ hi) ∧ (∀ i j, i ≤ j → j ≤ ts.length → L i ≤ L j) ∧ ∀ j (h : j < ts.length), ∃ cs, R (L j) (L (j + 1)) cs ts[j] ∧ ∀ c u, cs[c]? = some u → w.cell? ⟨b, j * 4 + c, none⟩ = some u

/-- the texts lie in a row of their own, from block lo up to hi -/
def NamesIn (w : World) (lo hi : Nat) (v : Value) (ts : List ByteArray) : Prop := w.ownsRow lo 9 1 v ts.length (strV ts) ∧ ∀ g, v.ownBlock = some g → g < hi
theorem NamesIn.mono {w : World} {lo hi lo' hi' : Nat} {v : Value} {ts : List ByteArray} (h : NamesIn w lo hi v ts) (hl : lo' ≤ lo) (hh : hi ≤ hi') : NamesIn w lo' hi' v ts :=
  ⟨⟨h.1.1, h.1.2.imp id fun ⟨g, c, cur, e1, e2, e3⟩ => ⟨g, c, cur, e1, Nat.le_trans hl e2, e3⟩⟩, fun g hg => Nat.lt_of_lt_of_le (h.2 g hg) hh⟩
theorem NamesIn.texts {w : World} {lo hi : Nat} {v : Value} {ts : List ByteArray} (h : NamesIn w lo hi v ts) : Texts w v ts := by
  rcases h.1.2 with ⟨e, h0⟩ | ⟨g, c, cur, e, _⟩
  · exact .inl ⟨List.length_eq_zero_iff.1 h0, _, _, e⟩
  · have h1 := h.1
    rw [e] at h1 ⊢
    exact Texts.own h1
/-- of these blocks nothing has turned -/
def Same (lo hi : Nat) (w w' : World) : Prop := ∀ b, lo ≤ b → b < hi → w'.heap[b]? = w.heap[b]?
theorem NamesIn.same {w w' : World} {lo hi : Nat} {v : Value} {ts : List ByteArray} (h : NamesIn w lo hi v ts) (hs : Same lo hi w w') : NamesIn w' lo hi v ts := by
  refine ⟨⟨h.1.1, ?_⟩, h.2⟩
  rcases h.1.2 with e | ⟨g, c, cur, e1, e2, e3, e4⟩
  · exact .inl e
  · refine .inr ⟨g, c, cur, e1, e2, ?_, e4⟩
    rw [hs g e2 (h.2 g (by rw [e1]; rfl))]
    exact e3

/-- these four cells hold the type, in memory of its own -/
def TyIn (w : World) : Nat → Nat → Nat → List Value → Ty → Prop
  | 0, _, _, _, _ => False
  | n + 1, lo, hi, cs, t => ∃ vn vk mid, cs = [.int .i64 t.kind, .string t.name, vn, vk] ∧ (-9223372036854775808 ≤ t.kind ∧ t.kind ≤ 9223372036854775807) ∧ t.name.size ≤ maxLen ∧ (NamesIn w lo mid vn t.names ∧ t.names.length ≤ maxLen ∧ ∀ x ∈ t.names, x.size ≤ maxLen) ∧ t.kids.length ≤ maxLen ∧ lo ≤ mid ∧ RowIn w (TyIn w n) mid hi vk t.kids

theorem RowIn.mono {w : World} {R : Nat → Nat → List Value → Ty → Prop} {lo hi lo' hi' : Nat} {v : Value} {ts : List Ty} (h : RowIn w R lo hi v ts) (hl : lo' ≤ lo) (hh : hi ≤ hi') : RowIn w R lo' hi' v ts := by
  obtain ⟨b, cap, e, h1, h2, hcl, L, h3, h4, h5⟩ := h
  exact ⟨b, cap, e, Nat.le_trans hl h1, Nat.lt_of_lt_of_le h2 hh, hcl, L, fun j hj => ⟨(h3 j hj).1, Nat.le_trans (h3 j hj).2 hh⟩, h4, h5⟩
theorem TyIn.mono {w : World} {n lo hi lo' hi' : Nat} {cs : List Value} {t : Ty} (h : TyIn w n lo hi cs t) (hl : lo' ≤ lo) (hh : hi ≤ hi') : TyIn w n lo' hi' cs t := by
  cases n with
  | zero => exact h.elim
  | succ n =>
    obtain ⟨vn, vk, mid, h1, h2, h3, ⟨h4, h4'⟩, h5, hm, h6⟩ := h
    exact ⟨vn, vk, mid, h1, h2, h3, ⟨h4.mono hl (Nat.le_refl _), h4'⟩, h5, Nat.le_trans hl hm, h6.mono (Nat.le_refl _) hh⟩
theorem TyIn.len {w : World} {n lo hi : Nat} {cs : List Value} {t : Ty} (h : TyIn w n lo hi cs t) : cs.length = 4 := by
  cases n with
  | zero => exact h.elim
  | succ n =>
    obtain ⟨vn, vk, _, rfl, _⟩ := h
    rfl
theorem RowIn.row {w : World} {R : Nat → Nat → List Value → Ty → Prop} {R' : List Value → Ty → Prop} {lo hi : Nat} {v : Value} {ts : List Ty} (h : RowIn w R lo hi v ts) (hR : ∀ lo hi cs t, R lo hi cs t → R' cs t) : RowAt w R' v ts := by
  obtain ⟨b, cap, e, _, _, _, L, _, _, h5⟩ := h
  refine .inr ⟨b, 0, cap, e, fun j hj => ?_⟩
  obtain ⟨cs, h1, h2⟩ := h5 j hj
  exact ⟨cs, hR _ _ _ _ h1, fun c u hu => by rw [Nat.zero_add]; exact h2 c u hu⟩
theorem TyIn.at {w : World} {n lo hi : Nat} {cs : List Value} {t : Ty} (h : TyIn w n lo hi cs t) : TyAt w n cs t := by
  induction n generalizing lo hi cs t with
  | zero => exact h.elim
  | succ n ih =>
    obtain ⟨vn, vk, mid, h1, h2, h3, ⟨h4, h4'⟩, h5, _, h6⟩ := h
    exact ⟨vn, vk, h1, h2, h3, ⟨h4.texts, h4'⟩, h5, h6.row fun _ _ _ _ h => ih h⟩
theorem cell_same {w w' : World} {b o : Nat} {u : Value} (h : w.cell? ⟨b, o, none⟩ = some u) (hs : w'.heap[b]? = w.heap[b]?) : w'.cell? ⟨b, o, none⟩ = some u := by
  rw [← h]
  simp only [World.cell?, hs]
theorem RowIn.same {w w' : World} {R R' : Nat → Nat → List Value → Ty → Prop} {lo hi : Nat} {v : Value} {ts : List Ty} (h : RowIn w R lo hi v ts) (hs : Same lo hi w w') (hR : ∀ lo' hi' cs t, lo ≤ lo' → hi' ≤ hi → R lo' hi' cs t → R' lo' hi' cs t) : RowIn w' R' lo hi v ts := by
  obtain ⟨b, cap, e, g1, g2, ⟨cur, et, g0⟩, L, g3, g4, g5⟩ := h
  refine ⟨b, cap, e, g1, g2, ⟨cur, et, (hs b g1 g2).trans g0⟩, L, g3, g4, fun j hj => ?_⟩
  obtain ⟨cs, k1, k2⟩ := g5 j hj
  have h1 := g3 j (by omega)
  have h2 := g3 (j + 1) (by omega)
  exact ⟨cs, hR _ _ _ _ (by omega) h2.2 k1, fun c u hu => cell_same (k2 c u hu) (hs b g1 g2)⟩
theorem TyIn.same {w w' : World} {n lo hi : Nat} {cs : List Value} {t : Ty} (h : TyIn w n lo hi cs t) (hs : Same lo hi w w') : TyIn w' n lo hi cs t := by
  induction n generalizing lo hi cs t with
  | zero => exact h.elim
  | succ n ih =>
    obtain ⟨vn, vk, mid, h1, h2, h3, ⟨h4, h4'⟩, h5, hm, h6⟩ := h
    have hmh : mid < hi := by obtain ⟨b, _, _, h7, h8, _⟩ := h6; omega
    exact ⟨vn, vk, mid, h1, h2, h3, ⟨h4.same fun b hb1 hb2 => hs b hb1 (by omega), h4'⟩, h5, hm, h6.same (fun b hb1 hb2 => hs b (by omega) hb2) fun lo' hi' cs t hl hh h => ih h fun b hb1 hb2 => hs b (by omega) (by omega)⟩
theorem TyIn.below {w w' : World} {n lo hi : Nat} {cs : List Value} {t : Ty} (h : TyIn w n lo hi cs t) (hb : Below w.heap.size w w') : TyIn w' n lo hi cs t := by
  induction n generalizing lo hi cs t with
  | zero => exact h.elim
  | succ n ih =>
    obtain ⟨vn, vk, mid, h1, h2, h3, ⟨⟨⟨h4, h5⟩, h6⟩, h4'⟩, h7, hm, b, cap, e, g1, g2, ⟨cur, et, g0⟩, L, g3, g4, g5⟩ := h
    refine ⟨vn, vk, mid, h1, h2, h3, ⟨⟨⟨h4, ?_⟩, h6⟩, h4'⟩, h7, hm, b, cap, e, g1, g2, ⟨cur, et, (hb.block b (Array.getElem?_eq_some_iff.1 g0).1).trans g0⟩, L, g3, g4, fun j hj => ?_⟩
    · exact h5.imp id fun ⟨g, c, cur, e1, e2, e3, e4⟩ => ⟨g, c, cur, e1, e2, (hb.block g (Array.getElem?_eq_some_iff.1 e3).1).trans e3, e4⟩
    · obtain ⟨cs, k1, k2⟩ := g5 j hj
      refine ⟨cs, ih k1, fun c u hu => ?_⟩
      have := k2 c u hu
      exact (hb.cell (p := ⟨b, j * 4 + c, none⟩) (World.block_lt_of_cell? w ⟨b, j * 4 + c, none⟩ this)).trans this

/-- it holds the type whatever becomes of what lies ahead of block B -/
def NewTy (B H : Nat) (w : World) (n : Nat) (cs : List Value) (t : Ty) : Prop := H ≤ w.heap.size ∧ ∀ w', Above B w w' → TyIn w' n B H cs t
def NewRow (B H : Nat) (w : World) (n : Nat) (v : Value) (ks : List Ty) : Prop := H ≤ w.heap.size ∧ ∀ w', Above B w w' → RowIn w' (TyIn w' n) B H v ks
theorem NewTy.step {B H : Nat} {w w' : World} {n : Nat} {cs : List Value} {t : Ty} (h : NewTy B H w n cs t) (ha : Above B w w') : NewTy B H w' n cs t := ⟨Nat.le_trans h.1 ha.1, fun w'' h2 => h.2 w'' (ha.trans h2)⟩
theorem NewRow.step {B H : Nat} {w w' : World} {n : Nat} {v : Value} {ks : List Ty} (h : NewRow B H w n v ks) (ha : Above B w w') : NewRow B H w' n v ks := ⟨Nat.le_trans h.1 ha.1, fun w'' h2 => h.2 w'' (ha.trans h2)⟩
theorem NewTy.mono {B B' H : Nat} {w : World} {n : Nat} {cs : List Value} {t : Ty} (h : NewTy B H w n cs t) (hB : B' ≤ B) : NewTy B' H w n cs t := ⟨h.1, fun w' ha => (h.2 w' (ha.mono hB)).mono hB (Nat.le_refl _)⟩
theorem NewTy.at {B H : Nat} {w : World} {n : Nat} {cs : List Value} {t : Ty} (h : NewTy B H w n cs t) : TyAt w n cs t := (h.2 w (Above.refl _ _)).at
theorem NewTy.own {B H : Nat} {w : World} {n : Nat} {cs : List Value} {t : Ty} (h : NewTy B H w n cs t) : TyIn w n B H cs t := h.2 w (Above.refl _ _)

theorem owns_above {w w' : World} {B e z : Nat} {v : Value} {n : Nat} {xs : List Value} (h : w.ownsRow B e z v n xs) (ha : Above B w w') : w'.ownsRow B e z v n xs := by
  refine ⟨h.1, ?_⟩
  rcases h.2 with h | ⟨g, cap, cur, hv, hg, hh, r⟩
  · exact .inl h
  · exact .inr ⟨g, cap, cur, hv, hg, by rw [ha.2 g hg (Array.getElem?_eq_some_iff.1 hh).1]; exact hh, r⟩

theorem Tryz.infoType : (Tryz.prog.info? 168).map (fun i => (i.zero, i.size, i.bytes)) = some (some (.agg #[.int .i64 0, .string ⟨#[]⟩, .slice none 0 0, .slice none 0 0]), 4, 72) := by kernel_rfl

theorem kept_belowT {w w' : World} {B e z : Nat} {v : Value} {n : Nat} {xs : List Value} (h : w.ownsRow B e z v n xs) (hb : Below w.heap.size w w') : w'.ownsRow B e z v n xs := owns_above h (Above.of_below hb)

/-- the first so many elements of the row hold these types -/
def Filled (B : Nat) (w : World) (n : Nat) (X : List Value) (ks : List Ty) (k : Nat) : Prop :=
  ∃ L : Nat → Nat, (∀ j, j ≤ k → B ≤ L j ∧ L j ≤ w.heap.size) ∧ (∀ i j, i ≤ j → j ≤ k → L i ≤ L j) ∧ ∀ j (h : j < ks.length), j < k → ∃ x0 x1 x2 x3, X[j * 4]? = some x0 ∧ X[j * 4 + 1]? = some x1 ∧ X[j * 4 + 2]? = some x2 ∧ X[j * 4 + 3]? = some x3 ∧ NewTy (L j) (L (j + 1)) w n [x0, x1, x2, x3] ks[j]

theorem Filled.zero {B : Nat} {w : World} {n : Nat} {X : List Value} {ks : List Ty} (h : B ≤ w.heap.size) : Filled B w n X ks 0 := ⟨fun _ => B, fun _ _ => ⟨Nat.le_refl _, h⟩, fun _ _ _ _ => Nat.le_refl _, fun j _ h => absurd h (by omega)⟩

theorem Filled.row {g cap : Nat} {w : World} {n : Nat} {X : List Value} {ks : List Ty} (hf : Filled (g + 1) w n X ks ks.length) (ho : w.ownsRow g 168 4 (.slice (some ⟨g, 0, none⟩) ks.length cap) ks.length X) : NewRow g w.heap.size w n (.slice (some ⟨g, 0, none⟩) ks.length cap) ks := ⟨Nat.le_refl _, fun w' ha => by
  have ho' := owns_above ho ha
  obtain ⟨L, hL, hm, hf⟩ := hf
  have h0 := hL 0 (Nat.zero_le _)
  have hcl : ∃ cur e, w'.heap[g]? = some (.cells cur e (0, 0)) := by
    rcases ho'.2 with ⟨h, _⟩ | ⟨g', cap', cur, hv, _, hh, _⟩
    · simp at h
    · simp only [Value.slice.injEq, Option.some.injEq, Addr.mk.injEq] at hv
      rw [← hv.1.1] at hh
      exact ⟨cur, _, hh⟩
  refine ⟨g, cap, rfl, Nat.le_refl _, by omega, hcl, L, fun j hj => ⟨by have := (hL j hj).1; omega, (hL j hj).2⟩, hm, fun j hj => ?_⟩
  obtain ⟨x0, x1, x2, x3, e0, e1, e2, e3, hn⟩ := hf j hj hj
  have hLj := (hL j (by omega)).1
  refine ⟨[x0, x1, x2, x3], hn.2 w' (ha.mono (by omega)), fun c u hu => ?_⟩
  have hc : c < 4 := by
    have := (List.getElem?_eq_some_iff.1 hu).1
    simpa using this
  rw [ho'.cellAt (j * 4 + c) (by omega)]
  match c, hc, hu with
  | 0, _, hu => rw [Nat.add_zero, e0]; exact hu
  | 1, _, hu => rw [e1]; exact hu
  | 2, _, hu => rw [e2]; exact hu
  | 3, _, hu => rw [e3]; exact hu⟩

theorem Filled.more {B lo : Nat} {w w1 w' : World} {n : Nat} {X : List Value} {ks : List Ty} {k : Nat} {y0 y1 y2 y3 : Value} (hf : Filled B w n X ks k) (ha : Above B w w') (hk : k < ks.length) (hX : X.length = ks.length * 4) (hlo : w.heap.size ≤ lo) (hw1 : lo ≤ w1.heap.size) (hy : NewTy lo w1.heap.size w' n [y0, y1, y2, y3] ks[k]) :
    Filled B w' n ((((X.set (k * 4) y0).set (k * 4 + 1) y1).set (k * 4 + 2) y2).set (k * 4 + 3) y3) ks (k + 1) := by
  obtain ⟨L, hL, hm, hf⟩ := hf
  have hLk := hL k (Nat.le_refl _)
  have hz := ha.1
  have hy1 := hy.1
  refine ⟨fun j => if j ≤ k then L j else w1.heap.size, fun j hj => ?_, fun i j hij hj => ?_, fun j hj hlt => ?_⟩
  · by_cases c : j ≤ k
    · simp only [if_pos c]
      have := hL j c
      omega
    · simp only [if_neg c]
      omega
  · by_cases c : j ≤ k
    · simp only [if_pos c, if_pos (show i ≤ k by omega)]
      exact hm i j hij c
    · simp only [if_neg c]
      by_cases d : i ≤ k
      · simp only [if_pos d]
        have := hL i d
        omega
      · simp only [if_neg d]; omega
  · by_cases e : j = k
    · subst e
      refine ⟨y0, y1, y2, y3, ?_, ?_, ?_, ?_, ?_⟩
      · rw [List.getElem?_set_ne (by omega), List.getElem?_set_ne (by omega), List.getElem?_set_ne (by omega), List.getElem?_set_self (by omega)]
      · rw [List.getElem?_set_ne (by omega), List.getElem?_set_ne (by omega), List.getElem?_set_self (by rw [List.length_set]; omega)]
      · rw [List.getElem?_set_ne (by omega), List.getElem?_set_self (by rw [List.length_set, List.length_set]; omega)]
      · rw [List.getElem?_set_self (by rw [List.length_set, List.length_set, List.length_set]; omega)]
      · simp only [if_pos (Nat.le_refl j), if_neg (show ¬ j + 1 ≤ j by omega)]
        exact hy.mono (by omega)
    · obtain ⟨x0, x1, x2, x3, e0, e1, e2, e3, hn⟩ := hf j hj (by omega)
      have s : ∀ c, c < 4 → ((((X.set (k * 4) y0).set (k * 4 + 1) y1).set (k * 4 + 2) y2).set (k * 4 + 3) y3)[j * 4 + c]? = X[j * 4 + c]? := fun c hc => by
        rw [List.getElem?_set_ne (by omega), List.getElem?_set_ne (by omega), List.getElem?_set_ne (by omega), List.getElem?_set_ne (by omega)]
      refine ⟨x0, x1, x2, x3, (s 0 (by decide)).trans e0, (s 1 (by decide)).trans e1, (s 2 (by decide)).trans e2, (s 3 (by decide)).trans e3, ?_⟩
      simp only [if_pos (show j ≤ k by omega), if_pos (show j + 1 ≤ k by omega)]
      exact hn.step (ha.mono (hL j (by omega)).1)

theorem cellNew {w : World} {cs : Array Value} {t : TypeId} {b : Nat} (i : Nat) (h : b = w.heap.size) : (w.alloc (.cells cs t)).cell? ⟨b, i, none⟩ = cs[i]? := by
  subst h
  simp
theorem cellOld {w : World} {o : Obj} {b : Nat} (i : Nat) (h : b < w.heap.size) : (w.alloc o).cell? ⟨b, i, none⟩ = w.cell? ⟨b, i, none⟩ := ((Below.refl w.heap.size w).alloc (Nat.le_refl _) o).cell (p := ⟨b, i, none⟩) h
theorem frozenNew {w : World} {cs : Array Value} {t : TypeId} {b : Nat} (i : Nat) (h : b = w.heap.size) : (w.alloc (.cells cs t)).frozen? ⟨b, i, none⟩ = false := by
  subst h
  simp
theorem frozenOld {w : World} {o : Obj} {b : Nat} (i : Nat) (h : b < w.heap.size) : (w.alloc o).frozen? ⟨b, i, none⟩ = w.frozen? ⟨b, i, none⟩ := ((Below.refl w.heap.size w).alloc (Nat.le_refl _) o).frozen (p := ⟨b, i, none⟩) h

theorem put4T {w0 : World} {b : Nat} {x0 x1 x2 x3 : Value} (h : ∀ j, j < 4 → (w0.cell? ⟨b, j, none⟩).isSome = true) :
    ((((w0.setCell ⟨b, 0, none⟩ x0).setCell ⟨b, 1, none⟩ x1).setCell ⟨b, 2, none⟩ x2).setCell ⟨b, 3, none⟩ x3).cell? ⟨b, 0, none⟩ = some x0 ∧
    ((((w0.setCell ⟨b, 0, none⟩ x0).setCell ⟨b, 1, none⟩ x1).setCell ⟨b, 2, none⟩ x2).setCell ⟨b, 3, none⟩ x3).cell? ⟨b, 1, none⟩ = some x1 ∧
    ((((w0.setCell ⟨b, 0, none⟩ x0).setCell ⟨b, 1, none⟩ x1).setCell ⟨b, 2, none⟩ x2).setCell ⟨b, 3, none⟩ x3).cell? ⟨b, 2, none⟩ = some x2 ∧
    ((((w0.setCell ⟨b, 0, none⟩ x0).setCell ⟨b, 1, none⟩ x1).setCell ⟨b, 2, none⟩ x2).setCell ⟨b, 3, none⟩ x3).cell? ⟨b, 3, none⟩ = some x3 := by
  have o : ∀ (w : World) (v : Value) (j k : Nat), j ≠ k → (w.setCell ⟨b, j, none⟩ v).cell? ⟨b, k, none⟩ = w.cell? ⟨b, k, none⟩ := fun w v j k hjk => World.cell?_setCell_other w _ _ v (fun e => hjk (by cases e; rfl))
  refine ⟨?_, ?_, ?_, ?_⟩
  · rw [o _ _ 3 0 (by decide), o _ _ 2 0 (by decide), o _ _ 1 0 (by decide)]
    exact World.cell?_setCell_same' _ _ _ (h 0 (by decide))
  · rw [o _ _ 3 1 (by decide), o _ _ 2 1 (by decide)]
    exact World.cell?_setCell_same' _ _ _ (by rw [o _ _ 0 1 (by decide)]; exact h 1 (by decide))
  · rw [o _ _ 3 2 (by decide)]
    exact World.cell?_setCell_same' _ _ _ (by rw [o _ _ 1 2 (by decide), o _ _ 0 2 (by decide)]; exact h 2 (by decide))
  · exact World.cell?_setCell_same' _ _ _ (by rw [o _ _ 2 3 (by decide), o _ _ 1 3 (by decide), o _ _ 0 3 (by decide)]; exact h 3 (by decide))

end Go.Proofs.YtllbfbllkefjeaaGreatDoor

namespace Go.Proofs.YtllbfbllkefjeaaGreatDoor
open Go.RowKit

/-- the value is a slice of names and types, in memory of its own: the row, then what each leads to, one behind the other -/
def EnvIn (w : World) (n : Nat) (lo hi : Nat) (v : Value) (es : List (ByteArray × Ty)) : Prop :=
  ∃ b cap, v = .slice (some ⟨b, 0, none⟩) es.length cap ∧ lo ≤ b ∧ b < hi ∧ (∃ cur e, w.heap[b]? = some (.cells cur e (0, 0))) ∧ ∃ L : Nat → Nat, (∀ j, j ≤ es.length → b < L j ∧ L j ≤ hi) ∧ (∀ i j, i ≤ j → j ≤ es.length → L i ≤ L j) ∧ ∀ j (h : j < es.length), es[j].1.size ≤ maxLen ∧ ∃ cs, TyIn w n (L j) (L (j + 1)) cs es[j].2 ∧ w.cell? ⟨b, j * 5, none⟩ = some (.string es[j].1) ∧ ∀ c u, cs[c]? = some u → w.cell? ⟨b, j * 5 + 1 + c, none⟩ = some u
theorem EnvIn.at {w : World} {n lo hi : Nat} {v : Value} {es : List (ByteArray × Ty)} (h : EnvIn w n lo hi v es) : EnvAt w n v es := by
  obtain ⟨b, cap, e, _, _, _, L, _, _, h5⟩ := h
  refine .inr ⟨b, 0, cap, e, fun j hj => ?_⟩
  obtain ⟨hs, cs, h1, h0, h2⟩ := h5 j hj
  refine ⟨.string es[j].1 :: cs, ⟨cs, rfl, hs, h1.at⟩, fun c u hu => ?_⟩
  cases c with
  | zero =>
    simp only [List.getElem?_cons_zero, Option.some.injEq] at hu
    subst hu
    rw [Nat.zero_add]; exact h0
  | succ c =>
    rw [List.getElem?_cons_succ] at hu
    have := h2 c u hu
    rw [show 0 + j * 5 + (c + 1) = j * 5 + 1 + c from by omega]
    exact this
def NewEnv (B H : Nat) (w : World) (n : Nat) (v : Value) (es : List (ByteArray × Ty)) : Prop := H ≤ w.heap.size ∧ ∀ w', Above B w w' → EnvIn w' n B H v es
theorem NewEnv.step {B H : Nat} {w w' : World} {n : Nat} {v : Value} {es : List (ByteArray × Ty)} (h : NewEnv B H w n v es) (ha : Above B w w') : NewEnv B H w' n v es := ⟨Nat.le_trans h.1 ha.1, fun w'' h2 => h.2 w'' (ha.trans h2)⟩
theorem NewEnv.at {B H : Nat} {w : World} {n : Nat} {v : Value} {es : List (ByteArray × Ty)} (h : NewEnv B H w n v es) : EnvAt w n v es := (h.2 w (Above.refl _ _)).at

theorem Tryz.infoNamed : (Tryz.prog.info? 170).map (fun i => (i.zero, i.size, i.bytes)) = some (some (.agg #[.string ⟨#[]⟩, .int .i64 0, .string ⟨#[]⟩, .slice none 0 0, .slice none 0 0]), 5, 88) := by kernel_rfl

/-- the first so many elements of the row hold these -/
def FilledE (B : Nat) (w : World) (n : Nat) (X : List Value) (es : List (ByteArray × Ty)) (k : Nat) : Prop :=
  ∃ L : Nat → Nat, (∀ j, j ≤ k → B ≤ L j ∧ L j ≤ w.heap.size) ∧ (∀ i j, i ≤ j → j ≤ k → L i ≤ L j) ∧ ∀ j (h : j < es.length), j < k → es[j].1.size ≤ maxLen ∧ ∃ x0 x1 x2 x3, X[j * 5]? = some (.string es[j].1) ∧ X[j * 5 + 1]? = some x0 ∧ X[j * 5 + 2]? = some x1 ∧ X[j * 5 + 3]? = some x2 ∧ X[j * 5 + 4]? = some x3 ∧ NewTy (L j) (L (j + 1)) w n [x0, x1, x2, x3] es[j].2

theorem FilledE.zero {B : Nat} {w : World} {n : Nat} {X : List Value} {es : List (ByteArray × Ty)} (h : B ≤ w.heap.size) : FilledE B w n X es 0 := ⟨fun _ => B, fun _ _ => ⟨Nat.le_refl _, h⟩, fun _ _ _ _ => Nat.le_refl _, fun j _ h => absurd h (by omega)⟩

theorem FilledE.row {g cap : Nat} {w : World} {n : Nat} {X : List Value} {es : List (ByteArray × Ty)} (hf : FilledE (g + 1) w n X es es.length) (ho : w.ownsRow g 170 5 (.slice (some ⟨g, 0, none⟩) es.length cap) es.length X) : NewEnv g w.heap.size w n (.slice (some ⟨g, 0, none⟩) es.length cap) es := ⟨Nat.le_refl _, fun w' ha => by
  have ho' := owns_above ho ha
  obtain ⟨L, hL, hm, hf⟩ := hf
  have h0 := hL 0 (Nat.zero_le _)
  have hcl : ∃ cur e, w'.heap[g]? = some (.cells cur e (0, 0)) := by
    rcases ho'.2 with ⟨h, _⟩ | ⟨g', cap', cur, hv, _, hh, _⟩
    · simp at h
    · simp only [Value.slice.injEq, Option.some.injEq, Addr.mk.injEq] at hv
      rw [← hv.1.1] at hh
      exact ⟨cur, _, hh⟩
  refine ⟨g, cap, rfl, Nat.le_refl _, by omega, hcl, L, fun j hj => ⟨by have := (hL j hj).1; omega, (hL j hj).2⟩, hm, fun j hj => ?_⟩
  obtain ⟨hs, x0, x1, x2, x3, e0, e1, e2, e3, e4, hn⟩ := hf j hj hj
  have hLj := (hL j (by omega)).1
  refine ⟨hs, [x0, x1, x2, x3], hn.2 w' (ha.mono (by omega)), ?_, fun c u hu => ?_⟩
  · rw [ho'.cellAt (j * 5) (by omega), e0]
  have hc : c < 4 := by
    have := (List.getElem?_eq_some_iff.1 hu).1
    simpa using this
  rw [ho'.cellAt (j * 5 + 1 + c) (by omega)]
  match c, hc, hu with
  | 0, _, hu => rw [Nat.add_zero, e1]; exact hu
  | 1, _, hu => rw [e2]; exact hu
  | 2, _, hu => rw [e3]; exact hu
  | 3, _, hu => rw [e4]; exact hu⟩

theorem FilledE.more {B lo : Nat} {w w1 w' : World} {n : Nat} {X : List Value} {es : List (ByteArray × Ty)} {k : Nat} {y0 y1 y2 y3 y4 : Value} (hf : FilledE B w n X es k) (ha : Above B w w') (hk : k < es.length) (hX : X.length = es.length * 5) (hlo : w.heap.size ≤ lo) (hw1 : lo ≤ w1.heap.size) (hs : es[k].1.size ≤ maxLen) (h0 : y0 = .string es[k].1) (hy : NewTy lo w1.heap.size w' n [y1, y2, y3, y4] es[k].2) :
    FilledE B w' n (((((X.set (k * 5) y0).set (k * 5 + 1) y1).set (k * 5 + 2) y2).set (k * 5 + 3) y3).set (k * 5 + 4) y4) es (k + 1) := by
  obtain ⟨L, hL, hm, hf⟩ := hf
  have hLk := hL k (Nat.le_refl _)
  have hz := ha.1
  have hy1 := hy.1
  refine ⟨fun j => if j ≤ k then L j else w1.heap.size, fun j hj => ?_, fun i j hij hj => ?_, fun j hj hlt => ?_⟩
  · by_cases c : j ≤ k
    · simp only [if_pos c]
      have := hL j c
      omega
    · simp only [if_neg c]
      omega
  · by_cases c : j ≤ k
    · simp only [if_pos c, if_pos (show i ≤ k by omega)]
      exact hm i j hij c
    · simp only [if_neg c]
      by_cases d : i ≤ k
      · simp only [if_pos d]
        have := hL i d
        omega
      · simp only [if_neg d]; omega
  · by_cases e : j = k
    · subst e
      refine ⟨hs, y1, y2, y3, y4, ?_, ?_, ?_, ?_, ?_, ?_⟩
      · rw [List.getElem?_set_ne (by omega), List.getElem?_set_ne (by omega), List.getElem?_set_ne (by omega), List.getElem?_set_ne (by omega), List.getElem?_set_self (by omega), h0]
      · rw [List.getElem?_set_ne (by omega), List.getElem?_set_ne (by omega), List.getElem?_set_ne (by omega), List.getElem?_set_self (by rw [List.length_set]; omega)]
      · rw [List.getElem?_set_ne (by omega), List.getElem?_set_ne (by omega), List.getElem?_set_self (by rw [List.length_set, List.length_set]; omega)]
      · rw [List.getElem?_set_ne (by omega), List.getElem?_set_self (by rw [List.length_set, List.length_set, List.length_set]; omega)]
      · rw [List.getElem?_set_self (by rw [List.length_set, List.length_set, List.length_set, List.length_set]; omega)]
      · simp only [if_pos (Nat.le_refl j), if_neg (show ¬ j + 1 ≤ j by omega)]
        exact hy.mono (by omega)
    · obtain ⟨hs', x0, x1, x2, x3, e0, e1, e2, e3, e4, hn⟩ := hf j hj (by omega)
      have s : ∀ c, c < 5 → (((((X.set (k * 5) y0).set (k * 5 + 1) y1).set (k * 5 + 2) y2).set (k * 5 + 3) y3).set (k * 5 + 4) y4)[j * 5 + c]? = X[j * 5 + c]? := fun c hc => by
        rw [List.getElem?_set_ne (by omega), List.getElem?_set_ne (by omega), List.getElem?_set_ne (by omega), List.getElem?_set_ne (by omega), List.getElem?_set_ne (by omega)]
      refine ⟨hs', x0, x1, x2, x3, (s 0 (by decide)).trans e0, (s 1 (by decide)).trans e1, (s 2 (by decide)).trans e2, (s 3 (by decide)).trans e3, (s 4 (by decide)).trans e4, ?_⟩
      simp only [if_pos (show j ≤ k by omega), if_pos (show j + 1 ≤ k by omega)]
      exact hn.step (ha.mono (hL j (by omega)).1)

theorem put5 {w0 : World} {b : Nat} {x0 x1 x2 x3 x4 : Value} (h : ∀ j, j < 5 → (w0.cell? ⟨b, j, none⟩).isSome = true) :
    (((((w0.setCell ⟨b, 0, none⟩ x0).setCell ⟨b, 1, none⟩ x1).setCell ⟨b, 2, none⟩ x2).setCell ⟨b, 3, none⟩ x3).setCell ⟨b, 4, none⟩ x4).cell? ⟨b, 0, none⟩ = some x0 ∧
    (((((w0.setCell ⟨b, 0, none⟩ x0).setCell ⟨b, 1, none⟩ x1).setCell ⟨b, 2, none⟩ x2).setCell ⟨b, 3, none⟩ x3).setCell ⟨b, 4, none⟩ x4).cell? ⟨b, 1, none⟩ = some x1 ∧
    (((((w0.setCell ⟨b, 0, none⟩ x0).setCell ⟨b, 1, none⟩ x1).setCell ⟨b, 2, none⟩ x2).setCell ⟨b, 3, none⟩ x3).setCell ⟨b, 4, none⟩ x4).cell? ⟨b, 2, none⟩ = some x2 ∧
    (((((w0.setCell ⟨b, 0, none⟩ x0).setCell ⟨b, 1, none⟩ x1).setCell ⟨b, 2, none⟩ x2).setCell ⟨b, 3, none⟩ x3).setCell ⟨b, 4, none⟩ x4).cell? ⟨b, 3, none⟩ = some x3 ∧
    (((((w0.setCell ⟨b, 0, none⟩ x0).setCell ⟨b, 1, none⟩ x1).setCell ⟨b, 2, none⟩ x2).setCell ⟨b, 3, none⟩ x3).setCell ⟨b, 4, none⟩ x4).cell? ⟨b, 4, none⟩ = some x4 := by
  have o : ∀ (w : World) (v : Value) (j k : Nat), j ≠ k → (w.setCell ⟨b, j, none⟩ v).cell? ⟨b, k, none⟩ = w.cell? ⟨b, k, none⟩ := fun w v j k hjk => World.cell?_setCell_other w _ _ v (fun e => hjk (by cases e; rfl))
  obtain ⟨p0, p1, p2, p3⟩ := put4T (w0 := w0) (b := b) (x0 := x0) (x1 := x1) (x2 := x2) (x3 := x3) (fun j hj => h j (by omega))
  refine ⟨?_, ?_, ?_, ?_, ?_⟩
  · rw [o _ _ 4 0 (by decide)]; exact p0
  · rw [o _ _ 4 1 (by decide)]; exact p1
  · rw [o _ _ 4 2 (by decide)]; exact p2
  · rw [o _ _ 4 3 (by decide)]; exact p3
  · exact World.cell?_setCell_same' _ _ _ (by rw [o _ _ 3 4 (by decide), o _ _ 2 4 (by decide), o _ _ 1 4 (by decide), o _ _ 0 4 (by decide)]; exact h 4 (by decide))

end Go.Proofs.YtllbfbllkefjeaaGreatDoor
