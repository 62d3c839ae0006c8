/-
  Expressions, definitions and modules, plainly, and what their cells are in memory.
-/
import Derived.Test.YtegdladpkikicaaSzTy
import Derived.Test.YtegdladpkikicaaFmD
namespace Go.Proofs.Ytegdladpkikicaa
open Go.RowKit

/-- a slice of records, of so many cells each, whose cells are such -/
def RowG {α : Type} (z : Nat) (w : World) (R : List Value → α → Prop) (v : Value) (ts : List α) : Prop :=
  (ts = [] ∧ ∃ a cap, v = .slice a 0 cap) ∨ ∃ b off cap, v = .slice (some ⟨b, off, none⟩) ts.length cap ∧ ∀ j (h : j < ts.length), ∃ cs, R cs ts[j] ∧ ∀ c u, cs[c]? = some u → w.cell? ⟨b, off + j * z + c, none⟩ = some u
theorem RowG.below {α : Type} {z : Nat} {w w' : World} {R R' : List Value → α → Prop} {v : Value} {ts : List α} (h : RowG z w R v ts) (hb : Below w.heap.size w w') (hR : ∀ cs t, t ∈ ts → R cs t → R' cs t) : RowG z w' R' v ts := by
  rcases h with h | ⟨b, off, cap, rfl, hc⟩
  · exact .inl h
  · refine .inr ⟨b, off, cap, rfl, fun j hj => ?_⟩
    obtain ⟨cs, h1, h2⟩ := hc j hj
    refine ⟨cs, hR cs _ (List.getElem_mem hj) h1, fun c u hu => ?_⟩
    have := h2 c u hu
    exact (hb.cell (p := ⟨b, off + j * z + c, none⟩) (World.block_lt_of_cell? w ⟨b, off + j * z + c, none⟩ this)).trans this
theorem RowG.open {α : Type} {z : Nat} {w : World} {R : List Value → α → Prop} {v : Value} {ks : List α} (hz : ∀ cs t, R cs t → 0 < cs.length) (h : RowG z w R v ks) : ∃ av capv, v = .slice av ks.length capv ∧ ∀ j (h : j < ks.length), ∃ b off cs, av = some ⟨b, off, none⟩ ∧ b < w.heap.size ∧ R cs ks[j] ∧ ∀ c u, cs[c]? = some u → w.cell? ⟨b, off + j * z + c, none⟩ = some u := by
  rcases h with ⟨h, a, cap, e⟩ | ⟨b, off, cap, e, hc⟩
  · exact ⟨a, cap, by rw [h]; exact e, fun j hj => by rw [h] at hj; simp at hj⟩
  · refine ⟨_, cap, e, fun j hj => ?_⟩
    obtain ⟨cs', h1, h2⟩ := hc j hj
    have hl := hz _ _ h1
    exact ⟨b, off, cs', rfl, World.block_lt_of_cell? w ⟨b, off + j * z + 0, none⟩ (h2 0 cs'[0] (List.getElem?_eq_getElem hl)), h1, h2⟩

/-- an expression as it is told -/
structure Xp where
  kind : Int
  text : ByteArray
  n : Int
  line : Int
  names : List ByteArray
  kids : List Xp
/-- how much it holds: to a depth -/
def Xp.bulk : Nat → Xp → Nat
  | 0, _ => 0
  | n + 1, t => t.text.size + (t.names.length + sumS t.names) + (t.kids.length + (t.kids.map (Xp.bulk n)).sum)
/-- these six cells hold the expression, which is no deeper than that -/
def XpAt (w : World) : Nat → List Value → Xp → Prop
  | 0, _, _ => False
  | n + 1, cs, t => ∃ vn vk, cs = [.int .i64 t.kind, .string t.text, .int .i64 t.n, .int .i64 t.line, vn, vk] ∧ t.text.size ≤ maxLen ∧ (Texts w vn t.names ∧ t.names.length ≤ maxLen ∧ ∀ x ∈ t.names, x.size ≤ maxLen) ∧ t.kids.length ≤ maxLen ∧ RowG 6 w (XpAt w n) vk t.kids
theorem cells6 {l : List Value} (h : l.length = 6) : ∃ x0 x1 x2 x3 x4 x5, l = [x0, x1, x2, x3, x4, x5] := by
  match l, h with
  | [x0, x1, x2, x3, x4, x5], _ => exact ⟨x0, x1, x2, x3, x4, x5, rfl⟩
theorem cells16 {l : List Value} (h : l.length = 16) : ∃ x0 x1 x2 x3 x4 x5 x6 x7 x8 x9 x10 x11 x12 x13 x14 x15, l = [x0, x1, x2, x3, x4, x5, x6, x7, x8, x9, x10, x11, x12, x13, x14, x15] := by
  match l, h with
  | [x0, x1, x2, x3, x4, x5, x6, x7, x8, x9, x10, x11, x12, x13, x14, x15], _ => exact ⟨x0, x1, x2, x3, x4, x5, x6, x7, x8, x9, x10, x11, x12, x13, x14, x15, rfl⟩
theorem XpAt.len {w : World} {n : Nat} {cs : List Value} {t : Xp} (h : XpAt w n cs t) : cs.length = 6 := by
  cases n with
  | zero => exact h.elim
  | succ n =>
    obtain ⟨vn, vk, rfl, _⟩ := h
    rfl
theorem XpAt.below {w w' : World} {n : Nat} {cs : List Value} {t : Xp} (h : XpAt w n cs t) (hb : Below w.heap.size w w') : XpAt w' n cs t := by
  induction n generalizing cs t with
  | zero => exact h.elim
  | succ n ih =>
    obtain ⟨vn, vk, h1, h3, ⟨h4, h5, h6⟩, h7, h8⟩ := h
    exact ⟨vn, vk, h1, h3, ⟨h4.below hb, h5, h6⟩, h7, h8.below hb (fun cs t _ h => ih h)⟩
theorem XpAt.mono {w : World} {n m : Nat} {cs : List Value} {t : Xp} (h : XpAt w n cs t) (hnm : n ≤ m) : XpAt w m cs t := by
  induction n generalizing m cs t with
  | zero => exact h.elim
  | succ n ih =>
    obtain ⟨k, rfl⟩ : ∃ k, m = k + 1 := ⟨m - 1, by omega⟩
    obtain ⟨vn, vk, h1, h3, h4, h5, h6⟩ := h
    exact ⟨vn, vk, h1, h3, h4, h5, h6.below (Below.refl _ _) fun cs t _ h => ih h (by omega)⟩

/-- a definition as it is told -/
structure Df where
  kind : Int
  name : ByteArray
  line : Int
  params : List ByteArray
  types : List Ty
  typed : Bool
  ty : Ty
  exp : Xp
def Df.bulk (n : Nat) (d : Df) : Nat := d.name.size + (d.params.length + sumS d.params) + rowBulk n d.types + Ty.bulk n d.ty + Xp.bulk n d.exp
/-- these sixteen cells hold the definition -/
def DfAt (w : World) (n : Nat) (cs : List Value) (d : Df) : Prop :=
  ∃ vp vt t0 t1 t2 t3 x0 x1 x2 x3 x4 x5, cs = [.int .i64 d.kind, .string d.name, .int .i64 d.line, vp, vt, .bool d.typed, t0, t1, t2, t3, x0, x1, x2, x3, x4, x5] ∧ d.name.size ≤ maxLen ∧ (Texts w vp d.params ∧ d.params.length ≤ maxLen ∧ ∀ x ∈ d.params, x.size ≤ maxLen) ∧ (d.types.length ≤ maxLen ∧ RowAt w (TyAt w n) vt d.types) ∧ TyAt w n [t0, t1, t2, t3] d.ty ∧ XpAt w n [x0, x1, x2, x3, x4, x5] d.exp
theorem DfAt.len {w : World} {n : Nat} {cs : List Value} {t : Df} (h : DfAt w n cs t) : cs.length = 16 := by
  obtain ⟨_, _, _, _, _, _, _, _, _, _, _, _, rfl, _⟩ := h
  rfl
theorem DfAt.below {w w' : World} {n : Nat} {cs : List Value} {t : Df} (h : DfAt w n cs t) (hb : Below w.heap.size w w') : DfAt w' n cs t := by
  obtain ⟨vp, vt, t0, t1, t2, t3, x0, x1, x2, x3, x4, x5, e, h1, ⟨h2, h3⟩, ⟨h4, h5⟩, h6, h7⟩ := h
  exact ⟨vp, vt, t0, t1, t2, t3, x0, x1, x2, x3, x4, x5, e, h1, ⟨h2.below hb, h3⟩, ⟨h4, h5.below hb fun _ _ _ h => h.below hb⟩, h6.below hb, h7.below hb⟩
/-- a slice of records, as RowG, in a block of cells that nothing has frozen -/
def RowZ {α : Type} (z : Nat) (w : World) (R : List Value → α → Prop) (v : Value) (ts : List α) : Prop :=
  (ts = [] ∧ ∃ a cap, v = .slice a 0 cap) ∨ ∃ b off cap, v = .slice (some ⟨b, off, none⟩) ts.length cap ∧ (∃ cur e, w.heap[b]? = some (.cells cur e (0, 0))) ∧ ∀ j (h : j < ts.length), ∃ cs, R cs ts[j] ∧ ∀ c u, cs[c]? = some u → w.cell? ⟨b, off + j * z + c, none⟩ = some u
theorem RowZ.at {α : Type} {z : Nat} {w : World} {R R' : List Value → α → Prop} {v : Value} {ts : List α} (h : RowZ z w R v ts) (hR : ∀ cs t, t ∈ ts → R cs t → R' cs t) : RowG z w R' v ts := by
  rcases h with h | ⟨b, off, cap, e, _, hc⟩
  · exact .inl h
  · refine .inr ⟨b, off, cap, e, fun j hj => ?_⟩
    obtain ⟨cs, h1, h2⟩ := hc j hj
    exact ⟨cs, hR cs _ (List.getElem_mem hj) h1, h2⟩
theorem RowZ.below {α : Type} {z : Nat} {w w' : World} {R R' : List Value → α → Prop} {v : Value} {ts : List α} (h : RowZ z w R v ts) (hb : Below w.heap.size w w') (hR : ∀ cs t, t ∈ ts → R cs t → R' cs t) : RowZ z w' R' v ts := by
  rcases h with h | ⟨b, off, cap, e, ⟨cur, T, hr⟩, hc⟩
  · exact .inl h
  · refine .inr ⟨b, off, cap, e, ⟨cur, T, (hb.block b (Array.getElem?_eq_some_iff.1 hr).1).trans hr⟩, fun j hj => ?_⟩
    obtain ⟨cs, h1, h2⟩ := hc j hj
    refine ⟨cs, hR cs _ (List.getElem_mem hj) h1, fun c u hu => ?_⟩
    have := h2 c u hu
    exact (hb.cell (p := ⟨b, off + j * z + c, none⟩) (World.block_lt_of_cell? w ⟨b, off + j * z + c, none⟩ this)).trans this
/-- as TyAt, every row in a block that nothing has frozen -/
def TyW (w : World) : Nat → List Value → Ty → Prop
  | 0, _, _ => False
  | n + 1, cs, t => ∃ vn vk, cs = [.int .i64 t.kind, .string t.name, vn, vk] ∧ (-9223372036854775808 ≤ t.kind ∧ t.kind ≤ 9223372036854775807) ∧ t.name.size ≤ maxLen ∧ (Texts w vn t.names ∧ t.names.length ≤ maxLen ∧ ∀ x ∈ t.names, x.size ≤ maxLen) ∧ t.kids.length ≤ maxLen ∧ RowZ 4 w (TyW w n) vk t.kids
theorem TyW.at {w : World} {n : Nat} {cs : List Value} {t : Ty} (h : TyW w n cs t) : TyAt w n cs t := by
  induction n generalizing cs t with
  | zero => exact h.elim
  | succ n ih =>
    obtain ⟨vn, vk, h1, h2, h3, h4, h5, h6⟩ := h
    exact ⟨vn, vk, h1, h2, h3, h4, h5, h6.at fun _ _ _ h => ih h⟩
theorem TyW.below {w w' : World} {n : Nat} {cs : List Value} {t : Ty} (h : TyW w n cs t) (hb : Below w.heap.size w w') : TyW w' n cs t := by
  induction n generalizing cs t with
  | zero => exact h.elim
  | succ n ih =>
    obtain ⟨vn, vk, h1, h2, h3, ⟨h4, h5⟩, h6, h7⟩ := h
    exact ⟨vn, vk, h1, h2, h3, ⟨h4.below hb, h5⟩, h6, h7.below hb fun _ _ _ h => ih h⟩
theorem TyW.len {w : World} {n : Nat} {cs : List Value} {t : Ty} (h : TyW w n cs t) : cs.length = 4 := h.at.len
/-- as XpAt -/
def XpW (w : World) : Nat → List Value → Xp → Prop
  | 0, _, _ => False
  | n + 1, cs, t => ∃ vn vk, cs = [.int .i64 t.kind, .string t.text, .int .i64 t.n, .int .i64 t.line, vn, vk] ∧ t.text.size ≤ maxLen ∧ (Texts w vn t.names ∧ t.names.length ≤ maxLen ∧ ∀ x ∈ t.names, x.size ≤ maxLen) ∧ t.kids.length ≤ maxLen ∧ RowZ 6 w (XpW w n) vk t.kids
theorem XpW.at {w : World} {n : Nat} {cs : List Value} {t : Xp} (h : XpW w n cs t) : XpAt w n cs t := by
  induction n generalizing cs t with
  | zero => exact h.elim
  | succ n ih =>
    obtain ⟨vn, vk, h1, h3, h4, h5, h6⟩ := h
    exact ⟨vn, vk, h1, h3, h4, h5, h6.at fun _ _ _ h => ih h⟩
theorem XpW.below {w w' : World} {n : Nat} {cs : List Value} {t : Xp} (h : XpW w n cs t) (hb : Below w.heap.size w w') : XpW w' n cs t := by
  induction n generalizing cs t with
  | zero => exact h.elim
  | succ n ih =>
    obtain ⟨vn, vk, h1, h3, ⟨h4, h5⟩, h6, h7⟩ := h
    exact ⟨vn, vk, h1, h3, ⟨h4.below hb, h5⟩, h6, h7.below hb fun _ _ _ h => ih h⟩
theorem XpW.len {w : World} {n : Nat} {cs : List Value} {t : Xp} (h : XpW w n cs t) : cs.length = 6 := h.at.len
/-- as DfAt -/
def DfW (w : World) (n : Nat) (cs : List Value) (d : Df) : Prop :=
  ∃ vp vt t0 t1 t2 t3 x0 x1 x2 x3 x4 x5, cs = [.int .i64 d.kind, .string d.name, .int .i64 d.line, vp, vt, .bool d.typed, t0, t1, t2, t3, x0, x1, x2, x3, x4, x5] ∧ d.name.size ≤ maxLen ∧ (Texts w vp d.params ∧ d.params.length ≤ maxLen ∧ ∀ x ∈ d.params, x.size ≤ maxLen) ∧ (d.types.length ≤ maxLen ∧ RowZ 4 w (TyW w n) vt d.types) ∧ TyW w n [t0, t1, t2, t3] d.ty ∧ XpW w n [x0, x1, x2, x3, x4, x5] d.exp
theorem DfW.at {w : World} {n : Nat} {cs : List Value} {t : Df} (h : DfW w n cs t) : DfAt w n cs t := by
  obtain ⟨vp, vt, t0, t1, t2, t3, x0, x1, x2, x3, x4, x5, e, h1, h2, ⟨h4, h5⟩, h6, h7⟩ := h
  exact ⟨vp, vt, t0, t1, t2, t3, x0, x1, x2, x3, x4, x5, e, h1, h2, ⟨h4, h5.at fun _ _ _ h => h.at⟩, h6.at, h7.at⟩
theorem DfW.below {w w' : World} {n : Nat} {cs : List Value} {t : Df} (h : DfW w n cs t) (hb : Below w.heap.size w w') : DfW w' n cs t := by
  obtain ⟨vp, vt, t0, t1, t2, t3, x0, x1, x2, x3, x4, x5, e, h1, ⟨h2, h3⟩, ⟨h4, h5⟩, h6, h7⟩ := h
  exact ⟨vp, vt, t0, t1, t2, t3, x0, x1, x2, x3, x4, x5, e, h1, ⟨h2.below hb, h3⟩, ⟨h4, h5.below hb fun _ _ _ h => h.below hb⟩, h6.below hb, h7.below hb⟩
theorem DfW.len {w : World} {n : Nat} {cs : List Value} {t : Df} (h : DfW w n cs t) : cs.length = 16 := h.at.len
/-- two cells hold a module -/
structure MdAt (w : World) (n : Nat) (vi vd : Value) (im : List ByteArray) (ds : List Df) : Prop where
  im : Texts w vi im ∧ im.length ≤ maxLen ∧ ∀ x ∈ im, x.size ≤ maxLen
  ds : ds.length ≤ maxLen ∧ RowG 16 w (DfAt w n) vd ds
theorem MdAt.below {w w' : World} {n : Nat} {vi vd : Value} {im : List ByteArray} {ds : List Df} (h : MdAt w n vi vd im ds) (hb : Below w.heap.size w w') : MdAt w' n vi vd im ds :=
  ⟨⟨h.im.1.below hb, h.im.2⟩, h.ds.1, h.ds.2.below hb fun _ _ _ h => h.below hb⟩
/-- as MdAt -/
structure MdW (w : World) (n : Nat) (vi vd : Value) (im : List ByteArray) (ds : List Df) : Prop where
  im : Texts w vi im ∧ im.length ≤ maxLen ∧ ∀ x ∈ im, x.size ≤ maxLen
  ds : ds.length ≤ maxLen ∧ RowZ 16 w (DfW w n) vd ds
theorem MdW.at {w : World} {n : Nat} {vi vd : Value} {im : List ByteArray} {ds : List Df} (h : MdW w n vi vd im ds) : MdAt w n vi vd im ds := ⟨h.im, h.ds.1, h.ds.2.at fun _ _ _ h => h.at⟩
theorem MdW.below {w w' : World} {n : Nat} {vi vd : Value} {im : List ByteArray} {ds : List Df} (h : MdW w n vi vd im ds) (hb : Below w.heap.size w w') : MdW w' n vi vd im ds :=
  ⟨⟨h.im.1.below hb, h.im.2⟩, h.ds.1, h.ds.2.below hb fun _ _ _ h => h.below hb⟩
def mdBulk (n : Nat) (im : List ByteArray) (ds : List Df) : Nat := (im.length + sumS im) + bulkA (Df.bulk n) ds

end Go.Proofs.Ytegdladpkikicaa
