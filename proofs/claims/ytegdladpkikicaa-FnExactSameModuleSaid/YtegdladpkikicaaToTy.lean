/-
  The walks of the laws' own helpers toType and toTypeS: a copy in new memory.
-/
import Derived.Test.YtegdladpkikicaaEqTy
namespace Go.Proofs.Ytegdladpkikicaa
open Go.RowKit

/-- from block B on nothing of what was there has turned -/
def Above (B : Nat) (w w' : World) : Prop := w.heap.size ≤ w'.heap.size ∧ ∀ b, B ≤ b → b < w.heap.size → w'.heap[b]? = w.heap[b]?
theorem Above.refl (B : Nat) (w : World) : Above B w w := ⟨Nat.le_refl _, fun _ _ _ => rfl⟩
theorem Above.trans {B : Nat} {a b c : World} (h : Above B a b) (k : Above B b c) : Above B a c := ⟨Nat.le_trans h.1 k.1, fun i h1 h2 => (k.2 i h1 (Nat.lt_of_lt_of_le h2 h.1)).trans (h.2 i h1 h2)⟩
theorem Above.mono {B B' : Nat} {a b : World} (h : Above B a b) (hB : B ≤ B') : Above B' a b := ⟨h.1, fun i h1 h2 => h.2 i (Nat.le_trans hB h1) h2⟩
theorem Above.of_below {B : Nat} {w w' : World} (h : Below w.heap.size w w') : Above B w w' := ⟨h.size, fun b _ h2 => h.block b h2⟩
theorem Above.set {B : Nat} (w : World) (a : Addr) (u : Value) (h : a.block < B) : Above B w (w.setCell a u) := ⟨by simp, fun b h1 _ => Below.heap_setCell w a u b (by omega)⟩

/-- the value is a slice whose elements, of four cells each, are such, and lies from block lo up to hi; what its elements lead to lies behind it, one behind the other -/
def RowIn (w : World) (R : Nat → Nat → List Value → Ty → Prop) (lo hi : Nat) (v : Value) (ts : List Ty) : Prop :=
  ∃ b cap, v = .slice (some ⟨b, 0, none⟩) ts.length cap ∧ lo ≤ b ∧ b < hi ∧ (∃ cur e, w.heap[b]? = some (.cells cur e (0, 0))) ∧ ∃ L : Nat → Nat, (∀ j, j ≤ ts.length → b < L j ∧ L j ≤ hi) ∧ (∀ i j, i ≤ j → j ≤ ts.length → L i ≤ L j) ∧ ∀ j (h : j < ts.length), ∃ cs, R (L j) (L (j + 1)) cs ts[j] ∧ ∀ c u, cs[c]? = some u → w.cell? ⟨b, j * 4 + c, none⟩ = some u

/-- the texts lie in a row of their own, from block lo up to hi -/
def NamesIn (w : World) (lo hi : Nat) (v : Value) (ts : List ByteArray) : Prop := w.ownsRow lo 9 1 v ts.length (strV ts) ∧ ∀ g, v.ownBlock = some g → g < hi
theorem NamesIn.mono {w : World} {lo hi lo' hi' : Nat} {v : Value} {ts : List ByteArray} (h : NamesIn w lo hi v ts) (hl : lo' ≤ lo) (hh : hi ≤ hi') : NamesIn w lo' hi' v ts :=
  ⟨⟨h.1.1, h.1.2.imp id fun ⟨g, c, cur, e1, e2, e3⟩ => ⟨g, c, cur, e1, Nat.le_trans hl e2, e3⟩⟩, fun g hg => Nat.lt_of_lt_of_le (h.2 g hg) hh⟩
theorem NamesIn.texts {w : World} {lo hi : Nat} {v : Value} {ts : List ByteArray} (h : NamesIn w lo hi v ts) : Texts w v ts := by
  rcases h.1.2 with ⟨e, h0⟩ | ⟨g, c, cur, e, _⟩
  · exact .inl ⟨List.length_eq_zero_iff.1 h0, _, _, e⟩
  · have h1 := h.1
    rw [e] at h1 ⊢
    exact Texts.own h1
/-- of these blocks nothing has turned -/
def Same (lo hi : Nat) (w w' : World) : Prop := ∀ b, lo ≤ b → b < hi → w'.heap[b]? = w.heap[b]?
theorem NamesIn.same {w w' : World} {lo hi : Nat} {v : Value} {ts : List ByteArray} (h : NamesIn w lo hi v ts) (hs : Same lo hi w w') : NamesIn w' lo hi v ts := by
  refine ⟨⟨h.1.1, ?_⟩, h.2⟩
  rcases h.1.2 with e | ⟨g, c, cur, e1, e2, e3, e4⟩
  · exact .inl e
  · refine .inr ⟨g, c, cur, e1, e2, ?_, e4⟩
    rw [hs g e2 (h.2 g (by rw [e1]; rfl))]
    exact e3

/-- these four cells hold the type, in memory of its own -/
def TyIn (w : World) : Nat → Nat → Nat → List Value → Ty → Prop
  | 0, _, _, _, _ => False
  | n + 1, lo, hi, cs, t => ∃ vn vk mid, cs = [.int .i64 t.kind, .string t.name, vn, vk] ∧ (-9223372036854775808 ≤ t.kind ∧ t.kind ≤ 9223372036854775807) ∧ t.name.size ≤ maxLen ∧ (NamesIn w lo mid vn t.names ∧ t.names.length ≤ maxLen ∧ ∀ x ∈ t.names, x.size ≤ maxLen) ∧ t.kids.length ≤ maxLen ∧ lo ≤ mid ∧ RowIn w (TyIn w n) mid hi vk t.kids

theorem RowIn.mono {w : World} {R : Nat → Nat → List Value → Ty → Prop} {lo hi lo' hi' : Nat} {v : Value} {ts : List Ty} (h : RowIn w R lo hi v ts) (hl : lo' ≤ lo) (hh : hi ≤ hi') : RowIn w R lo' hi' v ts := by
  obtain ⟨b, cap, e, h1, h2, hcl, L, h3, h4, h5⟩ := h
  exact ⟨b, cap, e, Nat.le_trans hl h1, Nat.lt_of_lt_of_le h2 hh, hcl, L, fun j hj => ⟨(h3 j hj).1, Nat.le_trans (h3 j hj).2 hh⟩, h4, h5⟩
theorem TyIn.mono {w : World} {n lo hi lo' hi' : Nat} {cs : List Value} {t : Ty} (h : TyIn w n lo hi cs t) (hl : lo' ≤ lo) (hh : hi ≤ hi') : TyIn w n lo' hi' cs t := by
  cases n with
  | zero => exact h.elim
  | succ n =>
    obtain ⟨vn, vk, mid, h1, h2, h3, ⟨h4, h4'⟩, h5, hm, h6⟩ := h
    exact ⟨vn, vk, mid, h1, h2, h3, ⟨h4.mono hl (Nat.le_refl _), h4'⟩, h5, Nat.le_trans hl hm, h6.mono (Nat.le_refl _) hh⟩
theorem TyIn.len {w : World} {n lo hi : Nat} {cs : List Value} {t : Ty} (h : TyIn w n lo hi cs t) : cs.length = 4 := by
  cases n with
  | zero => exact h.elim
  | succ n =>
    obtain ⟨vn, vk, _, rfl, _⟩ := h
    rfl
theorem RowIn.row {w : World} {R : Nat → Nat → List Value → Ty → Prop} {R' : List Value → Ty → Prop} {lo hi : Nat} {v : Value} {ts : List Ty} (h : RowIn w R lo hi v ts) (hR : ∀ lo hi cs t, R lo hi cs t → R' cs t) : RowAt w R' v ts := by
  obtain ⟨b, cap, e, _, _, _, L, _, _, h5⟩ := h
  refine .inr ⟨b, 0, cap, e, fun j hj => ?_⟩
  obtain ⟨cs, h1, h2⟩ := h5 j hj
  exact ⟨cs, hR _ _ _ _ h1, fun c u hu => by rw [Nat.zero_add]; exact h2 c u hu⟩
theorem TyIn.at {w : World} {n lo hi : Nat} {cs : List Value} {t : Ty} (h : TyIn w n lo hi cs t) : TyAt w n cs t := by
  induction n generalizing lo hi cs t with
  | zero => exact h.elim
  | succ n ih =>
    obtain ⟨vn, vk, mid, h1, h2, h3, ⟨h4, h4'⟩, h5, _, h6⟩ := h
    exact ⟨vn, vk, h1, h2, h3, ⟨h4.texts, h4'⟩, h5, h6.row fun _ _ _ _ h => ih h⟩
theorem cell_same {w w' : World} {b o : Nat} {u : Value} (h : w.cell? ⟨b, o, none⟩ = some u) (hs : w'.heap[b]? = w.heap[b]?) : w'.cell? ⟨b, o, none⟩ = some u := by
  rw [← h]
  simp only [World.cell?, hs]
theorem RowIn.same {w w' : World} {R R' : Nat → Nat → List Value → Ty → Prop} {lo hi : Nat} {v : Value} {ts : List Ty} (h : RowIn w R lo hi v ts) (hs : Same lo hi w w') (hR : ∀ lo' hi' cs t, lo ≤ lo' → hi' ≤ hi → R lo' hi' cs t → R' lo' hi' cs t) : RowIn w' R' lo hi v ts := by
  obtain ⟨b, cap, e, g1, g2, ⟨cur, et, g0⟩, L, g3, g4, g5⟩ := h
  refine ⟨b, cap, e, g1, g2, ⟨cur, et, (hs b g1 g2).trans g0⟩, L, g3, g4, fun j hj => ?_⟩
  obtain ⟨cs, k1, k2⟩ := g5 j hj
  have h1 := g3 j (by omega)
  have h2 := g3 (j + 1) (by omega)
  exact ⟨cs, hR _ _ _ _ (by omega) h2.2 k1, fun c u hu => cell_same (k2 c u hu) (hs b g1 g2)⟩
theorem TyIn.same {w w' : World} {n lo hi : Nat} {cs : List Value} {t : Ty} (h : TyIn w n lo hi cs t) (hs : Same lo hi w w') : TyIn w' n lo hi cs t := by
  induction n generalizing lo hi cs t with
  | zero => exact h.elim
  | succ n ih =>
    obtain ⟨vn, vk, mid, h1, h2, h3, ⟨h4, h4'⟩, h5, hm, h6⟩ := h
    have hmh : mid < hi := by obtain ⟨b, _, _, h7, h8, _⟩ := h6; omega
    exact ⟨vn, vk, mid, h1, h2, h3, ⟨h4.same fun b hb1 hb2 => hs b hb1 (by omega), h4'⟩, h5, hm, h6.same (fun b hb1 hb2 => hs b (by omega) hb2) fun lo' hi' cs t hl hh h => ih h fun b hb1 hb2 => hs b (by omega) (by omega)⟩
theorem TyIn.below {w w' : World} {n lo hi : Nat} {cs : List Value} {t : Ty} (h : TyIn w n lo hi cs t) (hb : Below w.heap.size w w') : TyIn w' n lo hi cs t := by
  induction n generalizing lo hi cs t with
  | zero => exact h.elim
  | succ n ih =>
    obtain ⟨vn, vk, mid, h1, h2, h3, ⟨⟨⟨h4, h5⟩, h6⟩, h4'⟩, h7, hm, b, cap, e, g1, g2, ⟨cur, et, g0⟩, L, g3, g4, g5⟩ := h
    refine ⟨vn, vk, mid, h1, h2, h3, ⟨⟨⟨h4, ?_⟩, h6⟩, h4'⟩, h7, hm, b, cap, e, g1, g2, ⟨cur, et, (hb.block b (Array.getElem?_eq_some_iff.1 g0).1).trans g0⟩, L, g3, g4, fun j hj => ?_⟩
    · exact h5.imp id fun ⟨g, c, cur, e1, e2, e3, e4⟩ => ⟨g, c, cur, e1, e2, (hb.block g (Array.getElem?_eq_some_iff.1 e3).1).trans e3, e4⟩
    · obtain ⟨cs, k1, k2⟩ := g5 j hj
      refine ⟨cs, ih k1, fun c u hu => ?_⟩
      have := k2 c u hu
      exact (hb.cell (p := ⟨b, j * 4 + c, none⟩) (World.block_lt_of_cell? w ⟨b, j * 4 + c, none⟩ this)).trans this

/-- it holds the type whatever becomes of what lies ahead of block B -/
def NewTy (B H : Nat) (w : World) (n : Nat) (cs : List Value) (t : Ty) : Prop := H ≤ w.heap.size ∧ ∀ w', Above B w w' → TyIn w' n B H cs t
def NewRow (B H : Nat) (w : World) (n : Nat) (v : Value) (ks : List Ty) : Prop := H ≤ w.heap.size ∧ ∀ w', Above B w w' → RowIn w' (TyIn w' n) B H v ks
theorem NewTy.step {B H : Nat} {w w' : World} {n : Nat} {cs : List Value} {t : Ty} (h : NewTy B H w n cs t) (ha : Above B w w') : NewTy B H w' n cs t := ⟨Nat.le_trans h.1 ha.1, fun w'' h2 => h.2 w'' (ha.trans h2)⟩
theorem NewRow.step {B H : Nat} {w w' : World} {n : Nat} {v : Value} {ks : List Ty} (h : NewRow B H w n v ks) (ha : Above B w w') : NewRow B H w' n v ks := ⟨Nat.le_trans h.1 ha.1, fun w'' h2 => h.2 w'' (ha.trans h2)⟩
theorem NewTy.mono {B B' H : Nat} {w : World} {n : Nat} {cs : List Value} {t : Ty} (h : NewTy B H w n cs t) (hB : B' ≤ B) : NewTy B' H w n cs t := ⟨h.1, fun w' ha => (h.2 w' (ha.mono hB)).mono hB (Nat.le_refl _)⟩
theorem NewTy.at {B H : Nat} {w : World} {n : Nat} {cs : List Value} {t : Ty} (h : NewTy B H w n cs t) : TyAt w n cs t := (h.2 w (Above.refl _ _)).at
theorem NewTy.own {B H : Nat} {w : World} {n : Nat} {cs : List Value} {t : Ty} (h : NewTy B H w n cs t) : TyIn w n B H cs t := h.2 w (Above.refl _ _)

theorem owns_above {w w' : World} {B e z : Nat} {v : Value} {n : Nat} {xs : List Value} (h : w.ownsRow B e z v n xs) (ha : Above B w w') : w'.ownsRow B e z v n xs := by
  refine ⟨h.1, ?_⟩
  rcases h.2 with h | ⟨g, cap, cur, hv, hg, hh, r⟩
  · exact .inl h
  · exact .inr ⟨g, cap, cur, hv, hg, by rw [ha.2 g hg (Array.getElem?_eq_some_iff.1 hh).1]; exact hh, r⟩

theorem Try.infoType : (Try.prog.info? 38).map (fun i => (i.zero, i.size, i.bytes)) = some (some (.agg #[.int .i64 0, .string ⟨#[]⟩, .slice none 0 0, .slice none 0 0]), 4, 72) := by kernel_rfl

theorem kept_belowT {w w' : World} {B e z : Nat} {v : Value} {n : Nat} {xs : List Value} (h : w.ownsRow B e z v n xs) (hb : Below w.heap.size w w') : w'.ownsRow B e z v n xs := owns_above h (Above.of_below hb)

/-- the first so many elements of the row hold these types -/
def Filled (B : Nat) (w : World) (n : Nat) (X : List Value) (ks : List Ty) (k : Nat) : Prop :=
  ∃ L : Nat → Nat, (∀ j, j ≤ k → B ≤ L j ∧ L j ≤ w.heap.size) ∧ (∀ i j, i ≤ j → j ≤ k → L i ≤ L j) ∧ ∀ j (h : j < ks.length), j < k → ∃ x0 x1 x2 x3, X[j * 4]? = some x0 ∧ X[j * 4 + 1]? = some x1 ∧ X[j * 4 + 2]? = some x2 ∧ X[j * 4 + 3]? = some x3 ∧ NewTy (L j) (L (j + 1)) w n [x0, x1, x2, x3] ks[j]

theorem Filled.zero {B : Nat} {w : World} {n : Nat} {X : List Value} {ks : List Ty} (h : B ≤ w.heap.size) : Filled B w n X ks 0 := ⟨fun _ => B, fun _ _ => ⟨Nat.le_refl _, h⟩, fun _ _ _ _ => Nat.le_refl _, fun j _ h => absurd h (by omega)⟩

theorem Filled.row {g cap : Nat} {w : World} {n : Nat} {X : List Value} {ks : List Ty} (hf : Filled (g + 1) w n X ks ks.length) (ho : w.ownsRow g 38 4 (.slice (some ⟨g, 0, none⟩) ks.length cap) ks.length X) : NewRow g w.heap.size w n (.slice (some ⟨g, 0, none⟩) ks.length cap) ks := ⟨Nat.le_refl _, fun w' ha => by
  have ho' := owns_above ho ha
  obtain ⟨L, hL, hm, hf⟩ := hf
  have h0 := hL 0 (Nat.zero_le _)
  have hcl : ∃ cur e, w'.heap[g]? = some (.cells cur e (0, 0)) := by
    rcases ho'.2 with ⟨h, _⟩ | ⟨g', cap', cur, hv, _, hh, _⟩
    · simp at h
    · simp only [Value.slice.injEq, Option.some.injEq, Addr.mk.injEq] at hv
      rw [← hv.1.1] at hh
      exact ⟨cur, _, hh⟩
  refine ⟨g, cap, rfl, Nat.le_refl _, by omega, hcl, L, fun j hj => ⟨by have := (hL j hj).1; omega, (hL j hj).2⟩, hm, fun j hj => ?_⟩
  obtain ⟨x0, x1, x2, x3, e0, e1, e2, e3, hn⟩ := hf j hj hj
  have hLj := (hL j (by omega)).1
  refine ⟨[x0, x1, x2, x3], hn.2 w' (ha.mono (by omega)), fun c u hu => ?_⟩
  have hc : c < 4 := by
    have := (List.getElem?_eq_some_iff.1 hu).1
    simpa using this
  rw [ho'.cellAt (j * 4 + c) (by omega)]
  match c, hc, hu with
  | 0, _, hu => rw [Nat.add_zero, e0]; exact hu
  | 1, _, hu => rw [e1]; exact hu
  | 2, _, hu => rw [e2]; exact hu
  | 3, _, hu => rw [e3]; exact hu⟩

theorem Filled.more {B lo : Nat} {w w1 w' : World} {n : Nat} {X : List Value} {ks : List Ty} {k : Nat} {y0 y1 y2 y3 : Value} (hf : Filled B w n X ks k) (ha : Above B w w') (hk : k < ks.length) (hX : X.length = ks.length * 4) (hlo : w.heap.size ≤ lo) (hw1 : lo ≤ w1.heap.size) (hy : NewTy lo w1.heap.size w' n [y0, y1, y2, y3] ks[k]) :
    Filled B w' n ((((X.set (k * 4) y0).set (k * 4 + 1) y1).set (k * 4 + 2) y2).set (k * 4 + 3) y3) ks (k + 1) := by
  obtain ⟨L, hL, hm, hf⟩ := hf
  have hLk := hL k (Nat.le_refl _)
  have hz := ha.1
  have hy1 := hy.1
  refine ⟨fun j => if j ≤ k then L j else w1.heap.size, fun j hj => ?_, fun i j hij hj => ?_, fun j hj hlt => ?_⟩
  · by_cases c : j ≤ k
    · simp only [if_pos c]
      have := hL j c
      omega
    · simp only [if_neg c]
      omega
  · by_cases c : j ≤ k
    · simp only [if_pos c, if_pos (show i ≤ k by omega)]
      exact hm i j hij c
    · simp only [if_neg c]
      by_cases d : i ≤ k
      · simp only [if_pos d]
        have := hL i d
        omega
      · simp only [if_neg d]; omega
  · by_cases e : j = k
    · subst e
      refine ⟨y0, y1, y2, y3, ?_, ?_, ?_, ?_, ?_⟩
      · rw [List.getElem?_set_ne (by omega), List.getElem?_set_ne (by omega), List.getElem?_set_ne (by omega), List.getElem?_set_self (by omega)]
      · rw [List.getElem?_set_ne (by omega), List.getElem?_set_ne (by omega), List.getElem?_set_self (by rw [List.length_set]; omega)]
      · rw [List.getElem?_set_ne (by omega), List.getElem?_set_self (by rw [List.length_set, List.length_set]; omega)]
      · rw [List.getElem?_set_self (by rw [List.length_set, List.length_set, List.length_set]; omega)]
      · simp only [if_pos (Nat.le_refl j), if_neg (show ¬ j + 1 ≤ j by omega)]
        exact hy.mono (by omega)
    · obtain ⟨x0, x1, x2, x3, e0, e1, e2, e3, hn⟩ := hf j hj (by omega)
      have s : ∀ c, c < 4 → ((((X.set (k * 4) y0).set (k * 4 + 1) y1).set (k * 4 + 2) y2).set (k * 4 + 3) y3)[j * 4 + c]? = X[j * 4 + c]? := fun c hc => by
        rw [List.getElem?_set_ne (by omega), List.getElem?_set_ne (by omega), List.getElem?_set_ne (by omega), List.getElem?_set_ne (by omega)]
      refine ⟨x0, x1, x2, x3, (s 0 (by decide)).trans e0, (s 1 (by decide)).trans e1, (s 2 (by decide)).trans e2, (s 3 (by decide)).trans e3, ?_⟩
      simp only [if_pos (show j ≤ k by omega), if_pos (show j + 1 ≤ k by omega)]
      exact hn.step (ha.mono (hL j (by omega)).1)

set_option maxHeartbeats 1600000 in
set_option maxRecDepth 100000 in
theorem lawsToRow (n : Nat) (ih : ∀ (cs : List Value) (t : Ty) (w : World), TyAt w n cs t → Ty.bulk n t ≤ 1048576 →
      Calls Try.prog 30 #[.agg cs.toArray] w fun e w' => ∃ an ln cn ak lk ck, e = .returned (.agg #[.int .i64 t.kind, .string t.name, .slice an ln cn, .slice ak lk ck]) ∧ NewTy w.heap.size w'.heap.size w' n [.int .i64 t.kind, .string t.name, .slice an ln cn, .slice ak lk ck] t ∧ Below w.heap.size w w')
    (v : Value) (ks : List Ty) (w : World) (hrow : RowAt w (TyAt w n) v ks) (hkl : rowBulk n ks ≤ 1048576) :
    Calls Try.prog 29 #[v] w fun e w' => e = .returned (.slice (some ⟨w.heap.size, 0, none⟩) ks.length ks.length) ∧ NewRow w.heap.size w'.heap.size w' n (.slice (some ⟨w.heap.size, 0, none⟩) ks.length ks.length) ks ∧ Below w.heap.size w w' := by
  obtain ⟨i0, hi, hz0, hz1, hz2⟩ := info_parts Try.infoType
  obtain ⟨a, capa, rfl, ha⟩ := rowOpen hrow
  have HEA : Hid (type_of% ha) := ha
  have IH : Hid (type_of% ih) := ih
  have hlen : ks.length ≤ 1048576 := by unfold rowBulk at hkl; omega
  clear hrow ha ih
  go_enter Try.func29, Try.ntmps29
  go_wp2_with (at_make; refine wpList_make_full _ rfl _ _ 36 rfl w.heap.size 38 i0 (.agg #[.int .i64 0, .string ⟨#[]⟩, .slice none 0 0, .slice none 0 0]) 4 Try.underlying36 hi hz0 hz1 .i64 .i64 _ _ ks.length rfl rfl rfl rfl (by rw [hz2]; omega) (by unfold maxLen; omega) (Nat.le_refl _) ?_)
  intro w1 hown hgrow
  have hB : Below w.heap.size w w1 := (Below.refl _ _).grown hgrow (Nat.le_refl _) (fun k hk => by cases hk)
  obtain ⟨X, hX⟩ : ∃ X, w1.ownsRow w.heap.size 38 4 (.slice (some ⟨w.heap.size, 0, none⟩) ks.length ks.length) ks.length X := ⟨_, hown⟩
  have hw1 : w.heap.size + 1 ≤ w1.heap.size := by have := (hX.lt w.heap.size rfl).2; omega
  have HX : Hid (w1.ownsRow w.heap.size 38 4 (.slice (some ⟨w.heap.size, 0, none⟩) ks.length ks.length) ks.length X) := hX
  clear hown hgrow hX
  go_wp2_with fail
  go_loopw [4] (fun i wr => ∃ (k : Nat) (X : List Value), k ≤ ks.length ∧ i = .int .i64 k ∧ wr.ownsRow w.heap.size 38 4 (.slice (some ⟨w.heap.size, 0, none⟩) ks.length ks.length) ks.length X ∧ Filled (w.heap.size + 1) wr n X ks k ∧ Below w.heap.size w wr ∧ w.heap.size + 1 ≤ wr.heap.size) (fun i _ => ks.length - (intOf i).toNat)
  case atStart => exact ⟨0, X, Nat.zero_le _, rfl, HX.out, Filled.zero hw1, hB, hw1⟩
  case round =>
    obtain ⟨k, Y, hk, rfl, ho, hfil, hbe, hsz⟩ := hrel
    clear HX hB hw1
    have HF : Hid (Filled (w.heap.size + 1) wr n Y ks k) := hfil
    clear hfil
    have hYl : Y.length = ks.length * 4 := ho.1
    by_cases hlt : k < ks.length
    · obtain ⟨ba, oa, x0, x1, x2, x3, rfl, hba, hta, a0, a1, a2, a3⟩ := HEA.out k hlt
      have A0 := (hbe.cell (p := ⟨ba, oa + k * 4, none⟩) hba).trans a0
      have A1 := (hbe.cell (p := ⟨ba, oa + k * 4 + 1, none⟩) hba).trans a1
      have A2 := (hbe.cell (p := ⟨ba, oa + k * 4 + 2, none⟩) hba).trans a2
      have A3 := (hbe.cell (p := ⟨ba, oa + k * 4 + 3, none⟩) hba).trans a3
      have hbk := kid_bulk n ks k hlt
      have HC0 := IH.out [x0, x1, x2, x3] ks[k] wr (hta.below hbe) (by unfold rowBulk at hkl; omega)
      have HC : Hid (type_of% HC0) := HC0
      clear a0 a1 a2 a3 HEA IH hta hbk HC0
      go_wp2_with fail
      refine HC.out.mono ?_
      rintro e w2 ⟨an, ln, cn, ak, lk, ck, rfl, hnew, hb2⟩
      have HNW : Hid (NewTy wr.heap.size w2.heap.size w2 n [.int .i64 ks[k].kind, .string ks[k].name, .slice an ln cn, .slice ak lk ck] ks[k]) := hnew
      have o1 := kept_belowT ho hb2
      have hbe2 : Below w.heap.size w w2 := hbe.trans (hb2.mono (by omega))
      have hsz2 : w.heap.size + 1 ≤ w2.heap.size := Nat.le_trans hsz hb2.size
      have ab2 : Above (w.heap.size + 1) wr w2 := Above.of_below hb2
      have hw12 : wr.heap.size ≤ w2.heap.size := hb2.size
      clear hnew ho hbe hb2 HC
      generalize hkd : Value.int .i64 ks[k].kind = y0 at *
      generalize hnm : Value.string ks[k].name = y1 at *
      generalize hnn : Value.slice an ln cn = y2 at *
      generalize hkk : Value.slice ak lk ck = y3 at *
      have f1 := o1.frozenAt (k * 4)
      have q1 : ∃ u, w2.cell? ⟨w.heap.size, k * 4, none⟩ = some u := by rw [o1.cellAt (k * 4) (by omega)]; exact ⟨_, List.getElem?_eq_getElem (by omega)⟩
      obtain ⟨u1, q1⟩ := q1
      obtain ⟨o2, _⟩ := o1.stored (k * 4) y0
      have f2 := o2.frozenAt (k * 4 + 1)
      have q2 : ∃ u, (w2.setCell ⟨w.heap.size, k * 4, none⟩ y0).cell? ⟨w.heap.size, k * 4 + 1, none⟩ = some u := by rw [o2.cellAt (k * 4 + 1) (by omega)]; exact ⟨_, List.getElem?_eq_getElem (by simp; omega)⟩
      obtain ⟨u2, q2⟩ := q2
      obtain ⟨o3, _⟩ := o2.stored (k * 4 + 1) y1
      have f3 := o3.frozenAt (k * 4 + 2)
      have q3 : ∃ u, ((w2.setCell ⟨w.heap.size, k * 4, none⟩ y0).setCell ⟨w.heap.size, k * 4 + 1, none⟩ y1).cell? ⟨w.heap.size, k * 4 + 2, none⟩ = some u := by rw [o3.cellAt (k * 4 + 2) (by omega)]; exact ⟨_, List.getElem?_eq_getElem (by simp; omega)⟩
      obtain ⟨u3, q3⟩ := q3
      obtain ⟨o4, _⟩ := o3.stored (k * 4 + 2) y2
      have f4 := o4.frozenAt (k * 4 + 3)
      have q4 : ∃ u, (((w2.setCell ⟨w.heap.size, k * 4, none⟩ y0).setCell ⟨w.heap.size, k * 4 + 1, none⟩ y1).setCell ⟨w.heap.size, k * 4 + 2, none⟩ y2).cell? ⟨w.heap.size, k * 4 + 3, none⟩ = some u := by rw [o4.cellAt (k * 4 + 3) (by omega)]; exact ⟨_, List.getElem?_eq_getElem (by simp; omega)⟩
      obtain ⟨u4, q4⟩ := q4
      obtain ⟨o5, _⟩ := o4.stored (k * 4 + 3) y3
      have ab3 : Above (w.heap.size + 1) w2 ((((w2.setCell ⟨w.heap.size, k * 4, none⟩ y0).setCell ⟨w.heap.size, k * 4 + 1, none⟩ y1).setCell ⟨w.heap.size, k * 4 + 2, none⟩ y2).setCell ⟨w.heap.size, k * 4 + 3, none⟩ y3) :=
        (((Above.set _ _ _ (by simp)).trans (Above.set _ _ _ (by simp))).trans (Above.set _ _ _ (by simp))).trans (Above.set _ _ _ (by simp))
      have HR1 : Hid (type_of% o5) := o5
      have HR2 : Hid (Filled (w.heap.size + 1) _ n _ ks (k + 1)) := HF.out.more (ab2.trans ab3) hlt hYl (Nat.le_refl _) hw12 (HNW.out.step (ab3.mono hsz))
      have HR3 : Hid (Below w.heap.size w ((((w2.setCell ⟨w.heap.size, k * 4, none⟩ y0).setCell ⟨w.heap.size, k * 4 + 1, none⟩ y1).setCell ⟨w.heap.size, k * 4 + 2, none⟩ y2).setCell ⟨w.heap.size, k * 4 + 3, none⟩ y3)) := (((hbe2.setCell (Nat.le_refl _) _).setCell (Nat.le_refl _) _).setCell (Nat.le_refl _) _).setCell (Nat.le_refl _) _
      have HR4 : w.heap.size + 1 ≤ ((((w2.setCell ⟨w.heap.size, k * 4, none⟩ y0).setCell ⟨w.heap.size, k * 4 + 1, none⟩ y1).setCell ⟨w.heap.size, k * 4 + 2, none⟩ y2).setCell ⟨w.heap.size, k * 4 + 3, none⟩ y3).heap.size := by simpa using hsz2
      clear o1 o2 o3 o4 o5 ab2 ab3 HNW HF hbe2 hsz2 hsz hw12
      subst hkd hnm hnn hkk
      go_wp2_with fail
      go_roundw
      case rel => exact ⟨k + 1, _, by omega, by go_num, HR1.out, HR2.out, HR3.out, HR4⟩
      case measure => simp [intOf]; omega
    · have hke : k = ks.length := by omega
      subst hke
      have HR : Hid (NewRow w.heap.size wr.heap.size wr n (.slice (some ⟨w.heap.size, 0, none⟩) ks.length ks.length) ks) := HF.out.row ho
      clear HF HEA IH ho
      go_wp2_with fail
      go_ret
      exact ⟨rfl, HR.out, hbe⟩

theorem cellNew {w : World} {cs : Array Value} {t : TypeId} {b : Nat} (i : Nat) (h : b = w.heap.size) : (w.alloc (.cells cs t)).cell? ⟨b, i, none⟩ = cs[i]? := by
  subst h
  simp
theorem cellOld {w : World} {o : Obj} {b : Nat} (i : Nat) (h : b < w.heap.size) : (w.alloc o).cell? ⟨b, i, none⟩ = w.cell? ⟨b, i, none⟩ := ((Below.refl w.heap.size w).alloc (Nat.le_refl _) o).cell (p := ⟨b, i, none⟩) h
theorem frozenNew {w : World} {cs : Array Value} {t : TypeId} {b : Nat} (i : Nat) (h : b = w.heap.size) : (w.alloc (.cells cs t)).frozen? ⟨b, i, none⟩ = false := by
  subst h
  simp
theorem frozenOld {w : World} {o : Obj} {b : Nat} (i : Nat) (h : b < w.heap.size) : (w.alloc o).frozen? ⟨b, i, none⟩ = w.frozen? ⟨b, i, none⟩ := ((Below.refl w.heap.size w).alloc (Nat.le_refl _) o).frozen (p := ⟨b, i, none⟩) h

theorem put4T {w0 : World} {b : Nat} {x0 x1 x2 x3 : Value} (h : ∀ j, j < 4 → (w0.cell? ⟨b, j, none⟩).isSome = true) :
    ((((w0.setCell ⟨b, 0, none⟩ x0).setCell ⟨b, 1, none⟩ x1).setCell ⟨b, 2, none⟩ x2).setCell ⟨b, 3, none⟩ x3).cell? ⟨b, 0, none⟩ = some x0 ∧
    ((((w0.setCell ⟨b, 0, none⟩ x0).setCell ⟨b, 1, none⟩ x1).setCell ⟨b, 2, none⟩ x2).setCell ⟨b, 3, none⟩ x3).cell? ⟨b, 1, none⟩ = some x1 ∧
    ((((w0.setCell ⟨b, 0, none⟩ x0).setCell ⟨b, 1, none⟩ x1).setCell ⟨b, 2, none⟩ x2).setCell ⟨b, 3, none⟩ x3).cell? ⟨b, 2, none⟩ = some x2 ∧
    ((((w0.setCell ⟨b, 0, none⟩ x0).setCell ⟨b, 1, none⟩ x1).setCell ⟨b, 2, none⟩ x2).setCell ⟨b, 3, none⟩ x3).cell? ⟨b, 3, none⟩ = some x3 := by
  have o : ∀ (w : World) (v : Value) (j k : Nat), j ≠ k → (w.setCell ⟨b, j, none⟩ v).cell? ⟨b, k, none⟩ = w.cell? ⟨b, k, none⟩ := fun w v j k hjk => World.cell?_setCell_other w _ _ v (fun e => hjk (by cases e; rfl))
  refine ⟨?_, ?_, ?_, ?_⟩
  · rw [o _ _ 3 0 (by decide), o _ _ 2 0 (by decide), o _ _ 1 0 (by decide)]
    exact World.cell?_setCell_same' _ _ _ (h 0 (by decide))
  · rw [o _ _ 3 1 (by decide), o _ _ 2 1 (by decide)]
    exact World.cell?_setCell_same' _ _ _ (by rw [o _ _ 0 1 (by decide)]; exact h 1 (by decide))
  · rw [o _ _ 3 2 (by decide)]
    exact World.cell?_setCell_same' _ _ _ (by rw [o _ _ 1 2 (by decide), o _ _ 0 2 (by decide)]; exact h 2 (by decide))
  · exact World.cell?_setCell_same' _ _ _ (by rw [o _ _ 2 3 (by decide), o _ _ 1 3 (by decide), o _ _ 0 3 (by decide)]; exact h 3 (by decide))

theorem ret_ty {R : Ending → World → Prop} {w0 : World} {tmps : Array Value} {b : Nat} {t : Ty} {an ak : Option Addr} {ln cn lk ck : Nat} (hp : tmps[2]?.getD undef = .pointer (some ⟨b, 0, none⟩))
    (h : ∀ j, j < 4 → (w0.cell? ⟨b, j, none⟩).isSome = true) (hR : R (.returned (.agg #[.int .i64 t.kind, .string t.name, .slice an ln cn, .slice ak lk ck])) ((((w0.setCell ⟨b, 0, none⟩ (.int .i64 t.kind)).setCell ⟨b, 1, none⟩ (.string t.name)).setCell ⟨b, 2, none⟩ (.slice an ln cn)).setCell ⟨b, 3, none⟩ (.slice ak lk ck))) :
    bodyPost Try.prog Try.f30 R .ret { tmps := tmps, defers := [] } ((((w0.setCell ⟨b, 0, none⟩ (.int .i64 t.kind)).setCell ⟨b, 1, none⟩ (.string t.name)).setCell ⟨b, 2, none⟩ (.slice an ln cn)).setCell ⟨b, 3, none⟩ (.slice ak lk ck)) := by
  obtain ⟨h0, h1, h2, h3⟩ := put4T (x0 := .int .i64 t.kind) (x1 := .string t.name) (x2 := .slice an ln cn) (x3 := .slice ak lk ck) h
  generalize ((((w0.setCell ⟨b, 0, none⟩ (.int .i64 t.kind)).setCell ⟨b, 1, none⟩ (.string t.name)).setCell ⟨b, 2, none⟩ (.slice an ln cn)).setCell ⟨b, 3, none⟩ (.slice ak lk ck)) = W at *
  refine bodyPost_ret (v := .agg #[.int .i64 t.kind, .string t.name, .slice an ln cn, .slice ak lk ck]) ?_ rfl hR
  simp [results, Try.results30, go_sem, hp, h0, h1, h2, h3]

set_option maxHeartbeats 1600000 in
set_option maxRecDepth 100000 in
theorem lawsToTy (n : Nat) : ∀ (cs : List Value) (t : Ty) (w : World), TyAt w n cs t → Ty.bulk n t ≤ 1048576 →
    Calls Try.prog 30 #[.agg cs.toArray] w fun e w' => ∃ an ln cn ak lk ck, e = .returned (.agg #[.int .i64 t.kind, .string t.name, .slice an ln cn, .slice ak lk ck]) ∧ NewTy w.heap.size w'.heap.size w' n [.int .i64 t.kind, .string t.name, .slice an ln cn, .slice ak lk ck] t ∧ Below w.heap.size w w' := by
  induction n with
  | zero => intro cs t w h; exact h.elim
  | succ n ih =>
    intro cs t w h hbk
    obtain ⟨vn, vk, rfl, hkd, hnm, ⟨hT, hTl, hTs⟩, hkl, hrow⟩ := h
    rw [Ty.bulk, bulk_texts] at hbk
    have hB3 : Below w.heap.size w (((w.alloc (.cells #[.int .i64 t.kind, .string t.name, vn, vk] 54)).alloc (.cells #[.int .i64 0, .string ⟨#[]⟩, .slice none 0 0, .slice none 0 0] 38)).alloc (.cells #[.int .i64 t.kind, .string t.name, .slice none 0 0, .slice none 0 0] 38)) := (((Below.refl _ _).alloc (Nat.le_refl _) _).alloc (by simp) _).alloc (by simp; omega) _
    have HN : Hid (Calls Try.prog 14 #[vn] (((w.alloc (.cells #[.int .i64 t.kind, .string t.name, vn, vk] 54)).alloc (.cells #[.int .i64 0, .string ⟨#[]⟩, .slice none 0 0, .slice none 0 0] 38)).alloc (.cells #[.int .i64 t.kind, .string t.name, .slice none 0 0, .slice none 0 0] 38)) fun e w' => e = .returned (.slice (some ⟨(((w.alloc (.cells #[.int .i64 t.kind, .string t.name, vn, vk] 54)).alloc (.cells #[.int .i64 0, .string ⟨#[]⟩, .slice none 0 0, .slice none 0 0] 38)).alloc (.cells #[.int .i64 t.kind, .string t.name, .slice none 0 0, .slice none 0 0] 38)).heap.size, 0, none⟩) t.names.length t.names.length) ∧ w'.ownsRow (((w.alloc (.cells #[.int .i64 t.kind, .string t.name, vn, vk] 54)).alloc (.cells #[.int .i64 0, .string ⟨#[]⟩, .slice none 0 0, .slice none 0 0] 38)).alloc (.cells #[.int .i64 t.kind, .string t.name, .slice none 0 0, .slice none 0 0] 38)).heap.size 9 1 (.slice (some ⟨(((w.alloc (.cells #[.int .i64 t.kind, .string t.name, vn, vk] 54)).alloc (.cells #[.int .i64 0, .string ⟨#[]⟩, .slice none 0 0, .slice none 0 0] 38)).alloc (.cells #[.int .i64 t.kind, .string t.name, .slice none 0 0, .slice none 0 0] 38)).heap.size, 0, none⟩) t.names.length t.names.length) t.names.length (strV t.names) ∧ Below (((w.alloc (.cells #[.int .i64 t.kind, .string t.name, vn, vk] 54)).alloc (.cells #[.int .i64 0, .string ⟨#[]⟩, .slice none 0 0, .slice none 0 0] 38)).alloc (.cells #[.int .i64 t.kind, .string t.name, .slice none 0 0, .slice none 0 0] 38)).heap.size (((w.alloc (.cells #[.int .i64 t.kind, .string t.name, vn, vk] 54)).alloc (.cells #[.int .i64 0, .string ⟨#[]⟩, .slice none 0 0, .slice none 0 0] 38)).alloc (.cells #[.int .i64 t.kind, .string t.name, .slice none 0 0, .slice none 0 0] 38)) w') := lawsTo vn t.names _ (hT.below hB3) (by omega)
    have HK : Hid (∀ wx : World, Below w.heap.size w wx → Calls Try.prog 29 #[vk] wx fun e w' => e = .returned (.slice (some ⟨wx.heap.size, 0, none⟩) t.kids.length t.kids.length) ∧ NewRow wx.heap.size w'.heap.size w' n (.slice (some ⟨wx.heap.size, 0, none⟩) t.kids.length t.kids.length) t.kids ∧ Below wx.heap.size wx w') := fun wx hx => lawsToRow n ih vk t.kids wx (hrow.below hx fun cs t _ h => h.below hx) (by unfold rowBulk; omega)
    have HD : Hid ((-9223372036854775808 ≤ t.kind ∧ t.kind ≤ 9223372036854775807) ∧ t.name.size ≤ maxLen ∧ (t.names.length ≤ maxLen ∧ ∀ x ∈ t.names, x.size ≤ maxLen) ∧ t.kids.length ≤ maxLen) := ⟨hkd, hnm, ⟨hTl, hTs⟩, hkl⟩
    have h3 : (((w.alloc (.cells #[.int .i64 t.kind, .string t.name, vn, vk] 54)).alloc (.cells #[.int .i64 0, .string ⟨#[]⟩, .slice none 0 0, .slice none 0 0] 38)).alloc (.cells #[.int .i64 t.kind, .string t.name, .slice none 0 0, .slice none 0 0] 38)).heap.size = w.heap.size + 1 + 1 + 1 := by simp
    rw [h3] at HN
    clear hT hTl hTs hkd hnm hkl hrow ih hbk
    go_enter Try.func30, Try.ntmps30
    go_wp2_with fail
    refine HN.out.mono ?_
    rintro e w2 ⟨rfl, ho2, hb2⟩
    rw [← h3] at hb2
    obtain ⟨bc, bf⟩ := bcellT hb2
    have hz : w.heap.size + 1 + 1 < w2.heap.size := by have := hb2.size; rw [h3] at this; omega
    have hbw2 : Below w.heap.size w w2 := hB3.trans (hb2.mono (by rw [h3]; omega))
    have HO2 : Hid (type_of% ho2) := ho2
    have HNB : Hid (∀ g, (Value.slice (some ⟨w.heap.size + 1 + 1 + 1, 0, none⟩) t.names.length t.names.length).ownBlock = some g → g < w2.heap.size) := fun g hg => (ho2.lt g hg).2
    clear ho2 HN
    have hbw3 : Below w.heap.size w (w2.setCell ⟨w.heap.size + 1 + 1, 2, none⟩ (.slice (some ⟨w.heap.size + 1 + 1 + 1, 0, none⟩) t.names.length t.names.length)) := hbw2.setCell (by simp; omega) _
    have u0 : (w2.setCell ⟨w.heap.size + 1 + 1, 2, none⟩ (.slice (some ⟨w.heap.size + 1 + 1 + 1, 0, none⟩) t.names.length t.names.length)).cell? ⟨w.heap.size + 1 + 1, 0, none⟩ = some (.int .i64 t.kind) := by rw [World.cell?_setCell_other _ _ _ _ (fun e => by cases e), bc _ _ (by rw [h3]; omega), cellNew _ (by simp)]; rfl
    have u1 : (w2.setCell ⟨w.heap.size + 1 + 1, 2, none⟩ (.slice (some ⟨w.heap.size + 1 + 1 + 1, 0, none⟩) t.names.length t.names.length)).cell? ⟨w.heap.size + 1 + 1, 1, none⟩ = some (.string t.name) := by rw [World.cell?_setCell_other _ _ _ _ (fun e => by cases e), bc _ _ (by rw [h3]; omega), cellNew _ (by simp)]; rfl
    have u2 : (w2.setCell ⟨w.heap.size + 1 + 1, 2, none⟩ (.slice (some ⟨w.heap.size + 1 + 1 + 1, 0, none⟩) t.names.length t.names.length)).cell? ⟨w.heap.size + 1 + 1, 2, none⟩ = some (.slice (some ⟨w.heap.size + 1 + 1 + 1, 0, none⟩) t.names.length t.names.length) := World.cell?_setCell_same' _ _ _ (by rw [bc _ _ (by rw [h3]; omega), cellNew _ (by simp)]; rfl)
    have u3 : (w2.setCell ⟨w.heap.size + 1 + 1, 2, none⟩ (.slice (some ⟨w.heap.size + 1 + 1 + 1, 0, none⟩) t.names.length t.names.length)).cell? ⟨w.heap.size + 1 + 1, 3, none⟩ = some (.slice none 0 0) := by rw [World.cell?_setCell_other _ _ _ _ (fun e => by cases e), bc _ _ (by rw [h3]; omega), cellNew _ (by simp)]; rfl
    have uf : (w2.setCell ⟨w.heap.size + 1 + 1, 2, none⟩ (.slice (some ⟨w.heap.size + 1 + 1 + 1, 0, none⟩) t.names.length t.names.length)).frozen? ⟨w.heap.size + 1 + 1, 3, none⟩ = false := by rw [World.frozen?_setCell, bf _ _ (by rw [h3]; omega), frozenNew _ (by simp)]
    have r : ∀ c, c < 4 → ∃ u, (w2.setCell ⟨w.heap.size + 1 + 1, 2, none⟩ (.slice (some ⟨w.heap.size + 1 + 1 + 1, 0, none⟩) t.names.length t.names.length)).cell? ⟨w.heap.size + 1, c, none⟩ = some u := fun c hc => by
      rw [World.cell?_setCell_other _ _ _ _ (fun e => by injection e; omega), bc _ _ (by rw [h3]; omega)]
      rw [cellOld _ (by simp), cellNew _ (by simp)]
      match c, hc with
      | 0, _ => exact ⟨_, rfl⟩
      | 1, _ => exact ⟨_, rfl⟩
      | 2, _ => exact ⟨_, rfl⟩
      | 3, _ => exact ⟨_, rfl⟩
    have rf : ∀ c, (w2.setCell ⟨w.heap.size + 1 + 1, 2, none⟩ (.slice (some ⟨w.heap.size + 1 + 1 + 1, 0, none⟩) t.names.length t.names.length)).frozen? ⟨w.heap.size + 1, c, none⟩ = false := fun c => by rw [World.frozen?_setCell, bf _ _ (by rw [h3]; omega), frozenOld _ (by simp), frozenNew _ (by simp)]
    have hUz : (w2.setCell ⟨w.heap.size + 1 + 1, 2, none⟩ (.slice (some ⟨w.heap.size + 1 + 1 + 1, 0, none⟩) t.names.length t.names.length)).heap.size = w2.heap.size := by simp
    have hab1 : Above (w.heap.size + 1 + 1 + 1) w2 (w2.setCell ⟨w.heap.size + 1 + 1, 2, none⟩ (.slice (some ⟨w.heap.size + 1 + 1 + 1, 0, none⟩) t.names.length t.names.length)) := Above.set _ _ _ (by simp)
    go_wp2_with fail
    refine (HK.out _ hbw3).mono ?_
    rintro e w4 ⟨rfl, hnr, hb4⟩
    generalize (w2.setCell ⟨w.heap.size + 1 + 1, 2, none⟩ (.slice (some ⟨w.heap.size + 1 + 1 + 1, 0, none⟩) t.names.length t.names.length)) = U at *
    have c0 := (hb4.cell (p := ⟨w.heap.size + 1 + 1, 0, none⟩) (show w.heap.size + 1 + 1 < U.heap.size by omega)).trans u0
    have c1 := (hb4.cell (p := ⟨w.heap.size + 1 + 1, 1, none⟩) (show w.heap.size + 1 + 1 < U.heap.size by omega)).trans u1
    have c2 := (hb4.cell (p := ⟨w.heap.size + 1 + 1, 2, none⟩) (show w.heap.size + 1 + 1 < U.heap.size by omega)).trans u2
    have c3 := (hb4.cell (p := ⟨w.heap.size + 1 + 1, 3, none⟩) (show w.heap.size + 1 + 1 < U.heap.size by omega)).trans u3
    have cf := (hb4.frozen (p := ⟨w.heap.size + 1 + 1, 3, none⟩) (show w.heap.size + 1 + 1 < U.heap.size by omega)).trans uf
    obtain ⟨v0, r0⟩ := r 0 (by decide)
    obtain ⟨v1, r1⟩ := r 1 (by decide)
    obtain ⟨v2, r2⟩ := r 2 (by decide)
    obtain ⟨v3, r3⟩ := r 3 (by decide)
    have d0 := (hb4.cell (p := ⟨w.heap.size + 1, 0, none⟩) (show w.heap.size + 1 < U.heap.size by omega)).trans r0
    have d1 := (hb4.cell (p := ⟨w.heap.size + 1, 1, none⟩) (show w.heap.size + 1 < U.heap.size by omega)).trans r1
    have d2 := (hb4.cell (p := ⟨w.heap.size + 1, 2, none⟩) (show w.heap.size + 1 < U.heap.size by omega)).trans r2
    have d3 := (hb4.cell (p := ⟨w.heap.size + 1, 3, none⟩) (show w.heap.size + 1 < U.heap.size by omega)).trans r3
    have df0 := (hb4.frozen (p := ⟨w.heap.size + 1, 0, none⟩) (show w.heap.size + 1 < U.heap.size by omega)).trans (rf 0)
    have df1 := (hb4.frozen (p := ⟨w.heap.size + 1, 1, none⟩) (show w.heap.size + 1 < U.heap.size by omega)).trans (rf 1)
    have df2 := (hb4.frozen (p := ⟨w.heap.size + 1, 2, none⟩) (show w.heap.size + 1 < U.heap.size by omega)).trans (rf 2)
    have df3 := (hb4.frozen (p := ⟨w.heap.size + 1, 3, none⟩) (show w.heap.size + 1 < U.heap.size by omega)).trans (rf 3)
    have hbw4 : Below w.heap.size w w4 := hbw3.trans (hb4.mono (by omega))
    have HR : Hid (NewRow U.heap.size w4.heap.size w4 n (.slice (some ⟨U.heap.size, 0, none⟩) t.kids.length t.kids.length) t.kids) := hnr
    have HAB : Hid (Above (w.heap.size + 1 + 1 + 1) w2 w4) := hab1.trans (Above.of_below hb4)
    rw [hUz] at HR
    have hUs : w.heap.size + 1 + 1 + 1 ≤ w2.heap.size := by omega
    clear u0 u1 u2 u3 uf r rf r0 r1 r2 r3 hnr hab1 hb2 hb4 bc bf HK hbw2 hbw3
    go_wp2_with fail
    refine ret_ty (t := t) (b := w.heap.size + 1) rfl ?_ ⟨_, _, _, _, _, _, rfl, ?_, ?_⟩
    · intro j hj
      rw [World.cell?_setCell_other _ _ _ _ (by simp)]
      match j, hj with
      | 0, _ => rw [d0]; rfl
      | 1, _ => rw [d1]; rfl
      | 2, _ => rw [d2]; rfl
      | 3, _ => rw [d3]; rfl
    · refine ⟨Nat.le_refl _, fun w' ha => ?_⟩
      have hA4 : Above (w.heap.size + 1 + 1 + 1) w4 w' := by
        refine Above.trans ?_ (ha.mono (by omega))
        refine ((((Above.set _ _ _ ?_).trans (Above.set _ _ _ ?_)).trans (Above.set _ _ _ ?_)).trans (Above.set _ _ _ ?_)).trans (Above.set _ _ _ ?_)
        all_goals (simp only []; omega)
      have hd := HD.out
      exact ⟨_, _, w2.heap.size, rfl, hd.1, hd.2.1, ⟨NamesIn.mono ⟨owns_above HO2.out (HAB.out.trans hA4), fun g hg => HNB.out g hg⟩ (by omega) (Nat.le_refl _), hd.2.2.1.1, hd.2.2.1.2⟩, hd.2.2.2, by omega, (HR.out.2 w' (hA4.mono hUs)).mono (Nat.le_refl _) (by simp)⟩
    · exact ((((hbw4.setCell (by simp; omega) _).setCell (by simp) _).setCell (by simp) _).setCell (by simp) _).setCell (by simp) _

end Go.Proofs.Ytegdladpkikicaa
