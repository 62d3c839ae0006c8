/-
  A maker's state: what it has in memory; what of it stays, and how it grows.
-/
import Derived.Test.YtbojmbeopnlmiaaGreatDoorMkD
namespace Go.Proofs.YtbojmbeopnlmiaaGreatDoor
open Go.RowKit

/-- a piece of a text: bytes, or the number of a form -/
structure Pc where
  s : ByteArray
  f : Option Nat
def pcT (s : ByteArray) : Pc := ⟨s, none⟩
def pcF (i : Nat) : Pc := ⟨⟨#[]⟩, some i⟩
def commaB (i : Nat) : ByteArray := if 0 < i then ⟨#[44, 32]⟩ else ⟨#[]⟩
def recPcs : Nat → List ByteArray → List Nat → List Pc
  | i, x :: xs, k :: ks => pcT (commaB i) :: pcT x :: pcT ⟨#[58, 32]⟩ :: pcF k :: recPcs (i + 1) xs ks
  | _, _, _ => []
def parPcs : Nat → List Nat → List Pc
  | i, k :: ks => pcT (commaB i) :: pcF k :: parPcs (i + 1) ks
  | _, [] => []
def brPcs (b : Bool) (k : Nat) : List Pc := if b then [pcT ⟨#[40]⟩, pcF k, pcT ⟨#[41]⟩] else [pcF k]
def uniPcs : Nat → List Ty → List Nat → List Pc
  | i, t :: ts, k :: ks => (if 0 < i then [pcT ⟨#[32, 124, 32]⟩] else []) ++ brPcs (decide (t.kind = 6)) k ++ uniPcs (i + 1) ts ks
  | _, _, _ => []
/-- the pieces of a type's text, its kids' numbers told -/
def pcsOf (t : Ty) (ks : List Nat) : List Pc :=
  if t.kind = 0 then [pcT ⟨#[105, 110, 116]⟩] else if t.kind = 1 then [pcT ⟨#[116, 101, 120, 116]⟩] else if t.kind = 2 then [pcT ⟨#[98, 111, 111, 108]⟩] else if t.kind = 3 then [pcT ⟨#[97, 110, 121]⟩]
  else if t.kind = 4 then [pcT t.name]
  else if t.kind = 5 then pcT ⟨#[123]⟩ :: recPcs 0 t.names ks ++ [pcT ⟨#[125]⟩]
  else if t.kind = 6 then pcT ⟨#[40]⟩ :: parPcs 0 ks.dropLast ++ [pcT ⟨#[41, 32, 45, 62, 32]⟩] ++ brPcs (decide ((lastTy t.kids).kind = 7)) (ks.getLastD 0)
  else uniPcs 0 t.kids ks

/-- a form, as a maker has it -/
structure FRec where
  blk : Nat
  ty : Ty
  kids : List Nat
  vk : Value
  vn : Value
def FRec.val (r : FRec) : Value := .iface (ptT r.ty.kind) (.pointer (some ⟨r.blk, 0, none⟩))
def FRec.more (r : FRec) : List Value := if r.ty.kind = 4 then [.string r.ty.name] else if r.ty.kind = 5 then [r.vn] else []
def FRec.cells (r : FRec) (k : Nat) (vp : Value) (sz : Nat) : Array Value := ([.int .i64 k, r.vk, .int .i64 (Ty.hi r.ty), vp, .int .i64 sz] ++ r.more).toArray
def Ty.keyNames (t : Ty) : List ByteArray := if t.kind = 4 then [t.name] else t.names
def FRec.key (r : FRec) : ByteArray := ⟨(keyF r.ty.kind r.ty.keyNames r.kids).toArray⟩

def valAt (F : List FRec) (i : Nat) : Value := match F[i]? with
  | some r => r.val
  | none => .nilIface
theorem valAt_some {F : List FRec} {i : Nat} {r : FRec} (h : F[i]? = some r) : valAt F i = r.val := by unfold valAt; rw [h]
theorem valAt_app {F G : List FRec} {i : Nat} (h : i < F.length) : valAt (F ++ G) i = valAt F i := by unfold valAt; rw [List.getElem?_append_left h]

/-- these are the numbers of these types -/
def KidsOf (F : List FRec) (ks : List Nat) (ts : List Ty) : Prop := ks.length = ts.length ∧ ∀ j (h : j < ks.length), ∃ r, F[ks[j]]? = some r ∧ ts[j]? = some r.ty
theorem get_app {α : Type} {F G : List α} {i : Nat} {r : α} (h : F[i]? = some r) : (F ++ G)[i]? = some r := by
  rw [List.getElem?_append_left (List.getElem?_eq_some_iff.1 h).1]
  exact h
theorem get_lt {α : Type} {F : List α} {i : Nat} {r : α} (h : F[i]? = some r) : i < F.length := (List.getElem?_eq_some_iff.1 h).1
theorem KidsOf.app {F G : List FRec} {ks : List Nat} {ts : List Ty} (h : KidsOf F ks ts) : KidsOf (F ++ G) ks ts := ⟨h.1, fun j hj => by obtain ⟨r, h1, h2⟩ := h.2 j hj; exact ⟨r, get_app h1, h2⟩⟩
theorem KidsOf.lt {F : List FRec} {ks : List Nat} {ts : List Ty} (h : KidsOf F ks ts) : ∀ i ∈ ks, i < F.length := fun i hi => by
  obtain ⟨j, hj, rfl⟩ := List.getElem_of_mem hi
  obtain ⟨r, h1, _⟩ := h.2 j hj
  exact get_lt h1
theorem KidsOf.vals {F G : List FRec} {ks : List Nat} {ts : List Ty} (h : KidsOf F ks ts) : ks.map (valAt (F ++ G)) = ks.map (valAt F) := List.map_congr_left fun i hi => valAt_app (h.lt i hi)

/-- values, a cell each, in a row of such a block -/
def VRow (A : Nat → Prop) (w : World) (v : Value) (l : List Value) : Prop :=
  (l = [] ∧ ∃ a cap, v = .slice a 0 cap) ∨ ∃ b cap, v = .slice (some ⟨b, 0, none⟩) l.length cap ∧ l.length ≤ cap ∧ A b ∧ ∀ j (h : j < l.length), w.cell? ⟨b, j, none⟩ = some l[j]
theorem VRow.same {A : Nat → Prop} {w w' : World} {v : Value} {l : List Value} (h : VRow A w v l) (hs : SameOn A w w') : VRow A w' v l := by
  rcases h with h | ⟨b, cap, e, hle, ha, hc⟩
  · exact .inl h
  · exact .inr ⟨b, cap, e, hle, ha, fun j hj => (World.cell?_of_block (a := ⟨b, j, none⟩) (hs b ha)).trans (hc j hj)⟩
theorem VRow.sub {A A' : Nat → Prop} {w : World} {v : Value} {l : List Value} (h : VRow A w v l) (hs : ∀ b, A b → A' b) : VRow A' w v l := by
  rcases h with h | ⟨b, cap, e, hle, ha, hc⟩
  · exact .inl h
  · exact .inr ⟨b, cap, e, hle, hs b ha, hc⟩

/-- pieces, two cells each -/
def pcV (F : List FRec) : Option Nat → Value
  | none => .nilIface
  | some i => valAt F i
def PRow (A : Nat → Prop) (w : World) (F : List FRec) (v : Value) (ps : List Pc) : Prop :=
  ∃ b cap, v = .slice (some ⟨b, 0, none⟩) ps.length cap ∧ A b ∧ ∀ j (h : j < ps.length), w.cell? ⟨b, j * 2, none⟩ = some (.string ps[j].s) ∧ w.cell? ⟨b, j * 2 + 1, none⟩ = some (pcV F ps[j].f)
theorem PRow.same {A : Nat → Prop} {w w' : World} {F : List FRec} {v : Value} {ps : List Pc} (h : PRow A w F v ps) (hs : SameOn A w w') : PRow A w' F v ps := by
  obtain ⟨b, cap, e, ha, hc⟩ := h
  exact ⟨b, cap, e, ha, fun j hj => ⟨(World.cell?_of_block (a := ⟨b, j * 2, none⟩) (hs b ha)).trans (hc j hj).1, (World.cell?_of_block (a := ⟨b, j * 2 + 1, none⟩) (hs b ha)).trans (hc j hj).2⟩⟩
theorem PRow.sub {A A' : Nat → Prop} {w : World} {F : List FRec} {v : Value} {ps : List Pc} (h : PRow A w F v ps) (hs : ∀ b, A b → A' b) : PRow A' w F v ps := by
  obtain ⟨b, cap, e, ha, hc⟩ := h
  exact ⟨b, cap, e, hs b ha, hc⟩
/-- the numbers in the pieces are its kids' -/
theorem recPcs_mem {i : Nat} {xs : List ByteArray} {ks : List Nat} {p : Pc} (h : p ∈ recPcs i xs ks) : ∀ k, p.f = some k → k ∈ ks := by
  induction xs generalizing i ks with
  | nil => simp [recPcs] at h
  | cons x xs ih =>
    cases ks with
    | nil => simp [recPcs] at h
    | cons y ks =>
      simp only [recPcs, List.mem_cons] at h
      intro k hk
      rcases h with rfl | rfl | rfl | rfl | h
      · simp [pcT] at hk
      · simp [pcT] at hk
      · simp [pcT] at hk
      · simp [pcF] at hk; simp [hk]
      · exact List.mem_cons_of_mem _ (ih h k hk)
theorem parPcs_mem {i : Nat} {ks : List Nat} {p : Pc} (h : p ∈ parPcs i ks) : ∀ k, p.f = some k → k ∈ ks := by
  induction ks generalizing i with
  | nil => simp [parPcs] at h
  | cons y ks ih =>
    simp only [parPcs, List.mem_cons] at h
    intro k hk
    rcases h with rfl | rfl | h
    · simp [pcT] at hk
    · simp [pcF] at hk; simp [hk]
    · exact List.mem_cons_of_mem _ (ih h k hk)
theorem brPcs_mem {b : Bool} {y : Nat} {p : Pc} (h : p ∈ brPcs b y) : ∀ k, p.f = some k → k = y := by
  intro k hk
  unfold brPcs at h
  split at h
  · simp only [List.mem_cons, List.not_mem_nil, or_false] at h
    rcases h with rfl | rfl | rfl
    · simp [pcT] at hk
    · simp [pcF] at hk; exact hk.symm
    · simp [pcT] at hk
  · simp only [List.mem_cons, List.not_mem_nil, or_false] at h
    subst h
    simp [pcF] at hk; exact hk.symm
theorem uniPcs_mem {i : Nat} {ts : List Ty} {ks : List Nat} {p : Pc} (h : p ∈ uniPcs i ts ks) : ∀ k, p.f = some k → k ∈ ks := by
  induction ts generalizing i ks with
  | nil => simp [uniPcs] at h
  | cons t ts ih =>
    cases ks with
    | nil => simp [uniPcs] at h
    | cons y ks =>
      simp only [uniPcs, List.mem_append] at h
      intro k hk
      rcases h with (h | h) | h
      · split at h
        · simp only [List.mem_cons, List.not_mem_nil, or_false] at h
          subst h
          simp [pcT] at hk
        · simp at h
      · rw [brPcs_mem h k hk]; simp
      · exact List.mem_cons_of_mem _ (ih h k hk)
theorem pcsOf_mem {t : Ty} {ks : List Nat} {p : Pc} (hk6 : t.kind = 6 → ks ≠ []) (h : p ∈ pcsOf t ks) : ∀ k, p.f = some k → k ∈ ks := by
  intro k hk
  have one : ∀ s, p ∈ [pcT s] → False := fun s hs => by
    rw [List.mem_singleton] at hs
    subst hs
    simp [pcT] at hk
  unfold pcsOf at h
  split at h
  · exact (one _ h).elim
  split at h
  · exact (one _ h).elim
  split at h
  · exact (one _ h).elim
  split at h
  · exact (one _ h).elim
  split at h
  · exact (one _ h).elim
  split at h
  · rcases List.mem_append.1 h with h | h
    · rcases List.mem_cons.1 h with h | h
      · exact (one _ (List.mem_singleton.2 h)).elim
      · exact recPcs_mem h k hk
    · exact (one _ h).elim
  split at h
  · rename_i h6
    rcases List.mem_append.1 h with h | h
    · rcases List.mem_append.1 h with h | h
      · rcases List.mem_cons.1 h with h | h
        · exact (one _ (List.mem_singleton.2 h)).elim
        · exact List.dropLast_subset _ (parPcs_mem h k hk)
      · exact (one _ h).elim
    · rw [brPcs_mem h k hk]
      have hne := hk6 h6
      rw [List.getLastD_eq_getLast?, List.getLast?_eq_some_getLast hne]
      exact List.getLast_mem hne
  · exact uniPcs_mem h k hk

/-- a list of types that a maker went through: where it stands, the types, their numbers, and the row of their forms -/
structure LRec where
  pl : Addr
  ts : List Ty
  ks : List Nat
  v : Value
structure Mk where
  F : List FRec
  L : List LRec
  T : List (Nat × List Value)
  ext : Nat → Prop

def plKey (a : Addr) (m : Int) : Value := .agg #[.pointer (some a), .int .i64 m]
def LMapAt (w : World) (lb : Nat) (L : List LRec) : Prop := ∃ es clock, w.heap[lb]? = some (.map es clock) ∧ es.toList.map (fun x => (x.key, x.val)) = L.map fun r => (plKey r.pl r.ts.length, r.v)
def TMapAt (w : World) (tb : Nat) (T : List (Nat × List Value)) : Prop := ∃ es clock, w.heap[tb]? = some (.map es clock) ∧ es.toList.map (fun x => (x.key, x.val)) = T.map fun p => (Value.int .i64 p.1, .agg p.2.toArray)
theorem LMapAt.same {w w' : World} {b : Nat} {L : List LRec} (h : LMapAt w b L) (e : w'.heap[b]? = w.heap[b]?) : LMapAt w' b L := by
  obtain ⟨es, c, h1, h2⟩ := h
  exact ⟨es, c, e.trans h1, h2⟩
theorem TMapAt.same {w w' : World} {b : Nat} {L : List (Nat × List Value)} (h : TMapAt w b L) (e : w'.heap[b]? = w.heap[b]?) : TMapAt w' b L := by
  obtain ⟨es, c, h1, h2⟩ := h
  exact ⟨es, c, e.trans h1, h2⟩

/-- what a form keeps of its text -/
def CacheOk (w : World) (M : Mk) (r : FRec) (vp : Value) (sz : Nat) : Prop := (vp = .slice none 0 0 ∨ PRow M.ext w M.F vp (pcsOf r.ty r.kids)) ∧ (sz = 0 ∨ sz = min r.ty.txt.size 8589934593)

structure FormOk (C : MkC) (w : World) (M : Mk) (k : Nat) (r : FRec) : Prop where
  ok : Ty.ok r.ty
  base : C.B ≤ r.blk
  kids : KidsOf M.F r.kids r.ty.kids
  less : ∀ i ∈ r.kids, i < k
  row : VRow M.ext w r.vk (r.kids.map (valAt M.F))
  names : r.ty.kind = 5 → TextsR M.ext w r.vn r.ty.names
  obj : ∃ vp sz, w.heap[r.blk]? = some (.cells (r.cells k vp sz) (stT r.ty.kind) (0, 0)) ∧ CacheOk w M r vp sz

structure ListOk (w : World) (M : Mk) (r : LRec) : Prop where
  pos : 0 < r.ts.length
  types : ∃ cap, RowR M.ext w (TyR M.ext w 13) (.slice (some r.pl) r.ts.length cap) r.ts
  kids : KidsOf M.F r.ks r.ts
  row : VRow M.ext w r.v (r.ks.map (valAt M.F))

structure MkAt (C : MkC) (w : World) (M : Mk) : Prop where
  geo : C.B ≤ C.fb ∧ C.B ≤ C.lb ∧ C.B ≤ C.tb ∧ C.B ≤ C.mb ∧ C.fb ≠ C.lb ∧ C.lb ≠ C.tb ∧ C.fb ≠ C.tb
  self : ∃ vkey nk xs, w.heap[C.mb]? = some (.cells #[vkey, .map (some C.fb), .map (some C.lb), .map (some C.tb)] 92 (0, 0)) ∧ w.ownsRow C.B 5 1 vkey nk xs
  forms : SMap w C.fb (M.F.map fun r => (r.key, r.val))
  lists : LMapAt w C.lb M.L
  types : TMapAt w C.tb M.T
  tys : ∀ p ∈ M.T, ∃ r, M.F[p.1]? = some r ∧ TyR M.ext w 13 p.2 r.ty
  each : ∀ k r, M.F[k]? = some r → FormOk C w M k r
  uniq : ∀ (i j : Nat) (r q : FRec), M.F[i]? = some r → M.F[j]? = some q → r.ty = q.ty → i = j
  blks : ∀ (i j : Nat) (r q : FRec), M.F[i]? = some r → M.F[j]? = some q → r.blk = q.blk → i = j
  ls : ∀ r ∈ M.L, ListOk w M r
  extok : ∀ b, M.ext b → b < w.heap.size ∧ (b < C.B ∨ ∃ c T, w.heap[b]? = some (.cells c T (0, 0)) ∧ extT T)
  small : ∀ (k : Nat) (r : FRec), M.F[k]? = some r → r.ty.txt.size ≤ 1099511627776 ∧ r.kids.length ≤ 1048577

theorem ext_free {C : MkC} {w : World} {b : Nat} (h : b < C.B ∨ ∃ c T, w.heap[b]? = some (.cells c T (0, 0)) ∧ extT T) : ¬ Mine C w b := by
  intro q
  rcases h with h | ⟨c, T, e, hT⟩
  · have := q.1; omega
  · rcases q.2 with ⟨es, clk, e2, _⟩ | ⟨c', T', fz', e2, hm⟩
    · rw [e] at e2; simp at e2
    · rw [e] at e2
      simp only [Option.some.injEq, Obj.cells.injEq] at e2
      rw [← e2.2.1] at hm
      exact ext_not_mk hT hm

theorem MkAt.mineMb {C : MkC} {w : World} {M : Mk} (h : MkAt C w M) : Mine C w C.mb := by
  obtain ⟨vkey, nk, xs, h1, _⟩ := h.self
  exact ⟨h.geo.2.2.2.1, .inr ⟨_, _, _, h1, .inr (.inl rfl)⟩⟩
theorem MkAt.mineFb {C : MkC} {w : World} {M : Mk} (h : MkAt C w M) : Mine C w C.fb := by
  obtain ⟨es, c, h1, _⟩ := h.forms
  exact ⟨h.geo.1, .inl ⟨_, _, h1, .inl rfl⟩⟩
theorem MkAt.mineLb {C : MkC} {w : World} {M : Mk} (h : MkAt C w M) : Mine C w C.lb := by
  obtain ⟨es, c, h1, _⟩ := h.lists
  exact ⟨h.geo.2.1, .inl ⟨_, _, h1, .inr (.inl rfl)⟩⟩
theorem MkAt.mineTb {C : MkC} {w : World} {M : Mk} (h : MkAt C w M) : Mine C w C.tb := by
  obtain ⟨es, c, h1, _⟩ := h.types
  exact ⟨h.geo.2.2.1, .inl ⟨_, _, h1, .inr (.inr rfl)⟩⟩
theorem MkAt.mineForm {C : MkC} {w : World} {M : Mk} (h : MkAt C w M) {k : Nat} {r : FRec} (hr : M.F[k]? = some r) : Mine C w r.blk := by
  obtain ⟨vp, sz, h1, _⟩ := (h.each k r hr).obj
  exact ⟨(h.each k r hr).base, .inr ⟨_, _, _, h1, st_mk _⟩⟩

/-- all that a maker has stands as it stood -/
theorem FormOk.same {C : MkC} {w w' : World} {M : Mk} {k : Nat} {r : FRec} (h : FormOk C w M k r) (hs : SameOn M.ext w w') (hb : w'.heap[r.blk]? = w.heap[r.blk]?) : FormOk C w' M k r := by
  obtain ⟨vp, sz, h1, h2, h3⟩ := h.obj
  exact ⟨h.ok, h.base, h.kids, h.less, h.row.same hs, fun q => (h.names q).same hs, vp, sz, hb.trans h1, h2.imp id fun q => q.same hs, h3⟩
theorem ListOk.same {w w' : World} {M : Mk} {r : LRec} (h : ListOk w M r) (hs : SameOn M.ext w w') : ListOk w' M r := by
  obtain ⟨cap, h1⟩ := h.types
  exact ⟨h.pos, ⟨cap, h1.same hs fun cs t _ q => q.same hs⟩, h.kids, h.row.same hs⟩
theorem MkAt.same {C : MkC} {w w' : World} {M : Mk} (h : MkAt C w M) (hm : ∀ b, Mine C w b → w'.heap[b]? = w.heap[b]?) (hs : SameOn M.ext w w') (hz : w.heap.size ≤ w'.heap.size) : MkAt C w' M := by
  obtain ⟨vkey, nk, xs, h1, h2⟩ := h.self
  refine ⟨h.geo, ⟨vkey, nk, xs, (hm _ h.mineMb).trans h1, h2.1, ?_⟩, h.forms.same (hm _ h.mineFb), h.lists.same (hm _ h.mineLb), h.types.same (hm _ h.mineTb), fun p hp => ?_, fun k r hr => (h.each k r hr).same hs (hm _ (h.mineForm hr)), h.uniq, h.blks, fun r hr => (h.ls r hr).same hs, fun b hb => ?_, h.small⟩
  · rcases h2.2 with q | ⟨g, cap, cur, hv, hg, hh, q⟩
    · exact .inl q
    · exact .inr ⟨g, cap, cur, hv, hg, (hm g ⟨hg, .inr ⟨_, _, _, hh, .inl rfl⟩⟩).trans hh, q⟩
  · obtain ⟨r, q1, q2⟩ := h.tys p hp
    exact ⟨r, q1, q2.same hs⟩
  · obtain ⟨q1, q2⟩ := h.extok b hb
    refine ⟨Nat.lt_of_lt_of_le q1 hz, q2.imp id fun ⟨c, T, e, hT⟩ => ⟨c, T, (hs b hb).trans e, hT⟩⟩
/-- new blocks alone -/
theorem MkAt.below {C : MkC} {w w' : World} {M : Mk} (h : MkAt C w M) (hb : Below w.heap.size w w') : MkAt C w' M := by
  refine h.same (fun b hm => hb.block b ?_) (fun b hb' => hb.block b (h.extok b hb').1) hb.size
  rcases hm.2 with ⟨es, clk, e, _⟩ | ⟨c, T, fz, e, _⟩
  · exact (Array.getElem?_eq_some_iff.1 e).1
  · exact (Array.getElem?_eq_some_iff.1 e).1
theorem MkAt.alloc {C : MkC} {w : World} {M : Mk} (h : MkAt C w M) (o : Obj) : MkAt C (w.alloc o) M := h.below ((Below.refl _ _).alloc (Nat.le_refl _) _)

/-- blocks that a maker may come to read -/
def ExtOk (C : MkC) (w : World) (A : Nat → Prop) : Prop := ∀ b, A b → b < w.heap.size ∧ (b < C.B ∨ ∃ c T, w.heap[b]? = some (.cells c T (0, 0)) ∧ extT T)
theorem ExtOk.sameF {C : MkC} {w w' : World} {A : Nat → Prop} (h : ExtOk C w A) (hf : MkF C w w') : SameOn A w w' := fun b hb => hf.old b (h b hb).1 (ext_free (h b hb).2)
theorem ExtOk.step {C : MkC} {w w' : World} {A : Nat → Prop} (h : ExtOk C w A) (hf : MkF C w w') : ExtOk C w' A := fun b hb => by
  obtain ⟨h1, h2⟩ := h b hb
  exact ⟨Nat.lt_of_lt_of_le h1 hf.size, h2.imp id fun ⟨c, T, e, hT⟩ => ⟨c, T, (h.sameF hf b hb).trans e, hT⟩⟩

/-- it comes to read more -/
def Mk.more (M : Mk) (A : Nat → Prop) : Mk := { M with ext := fun b => M.ext b ∨ A b }
theorem FormOk.wider {C : MkC} {w : World} {M : Mk} {k : Nat} {r : FRec} (h : FormOk C w M k r) (A : Nat → Prop) : FormOk C w (M.more A) k r := by
  obtain ⟨vp, sz, h1, h2, h3⟩ := h.obj
  exact ⟨h.ok, h.base, h.kids, h.less, h.row.sub fun b hb => .inl hb, fun q => (h.names q).sub fun b hb => .inl hb, vp, sz, h1, h2.imp id fun q => q.sub fun b hb => .inl hb, h3⟩
theorem MkAt.wider {C : MkC} {w : World} {M : Mk} (h : MkAt C w M) {A : Nat → Prop} (hA : ExtOk C w A) : MkAt C w (M.more A) := by
  refine ⟨h.geo, h.self, h.forms, h.lists, h.types, fun p hp => ?_, fun k r hr => (h.each k r hr).wider A, h.uniq, h.blks, fun r hr => ?_, fun b hb => hb.elim (h.extok b) (hA b), h.small⟩
  · obtain ⟨r, q1, q2⟩ := h.tys p hp
    exact ⟨r, q1, q2.sub fun b hb => .inl hb⟩
  · obtain ⟨q1, ⟨cap, q2⟩, q3, q4⟩ := h.ls r hr
    exact ⟨q1, ⟨cap, q2.sub (fun b hb => .inl hb) fun cs t _ q => q.sub fun b hb => .inl hb⟩, q3, q4.sub fun b hb => .inl hb⟩

end Go.Proofs.YtbojmbeopnlmiaaGreatDoor
