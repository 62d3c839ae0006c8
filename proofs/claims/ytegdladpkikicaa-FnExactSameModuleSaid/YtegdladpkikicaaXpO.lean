/-
  A module that is handed in, opened: its definitions, their types and expressions.
-/
import Derived.Test.YtegdladpkikicaaXpD
import Derived.Test.YtegdladpkikicaaTyO
namespace Go.Proofs.Ytegdladpkikicaa
open Go.ChangeShapes Go.WideShapes Go.ChangeAt Go.RowKit

set_option maxRecDepth 100000 in
theorem opened_xp {H : Type} {enc : TypeId × Value → H} {W : World} {base : Nat} {sp : Nat → Bool} {held : Bool} : ∀ (n : Nat) (cs : List Value) (x : DataW H × List MemPlace),
    DataW.trod enc Try.prog W base sp held n 57 cs = some x → ∃ t : Xp, XpAt W n cs t := by
  intro n
  induction n using Nat.strongRecOn with
  | ind n ih =>
    intro cs x h
    have c6 : Try.prog.cellsOf 57 = 6 := by kernel_rfl
    have ci : Try.prog.cellsOf 3 = 1 := by kernel_rfl
    have cst : Try.prog.cellsOf 9 = 1 := by kernel_rfl
    have cn : Try.prog.cellsOf 22 = 1 := by kernel_rfl
    have ck : Try.prog.cellsOf 55 = 1 := by kernel_rfl
    obtain ⟨xs, m, rfl, rfl, hl, hxl, hf⟩ := DataW.trod_struct Try.underlying57 h
    rw [c6] at hl
    have hxl6 : xs.length = 6 := hxl
    match cs, hl, xs, hxl6 with
    | [v0, v1, v2, v3, v4, v5], _, [y0, y1, y2, y3, y4, y5], _ =>
      have e0 : DataW.trod enc Try.prog W base sp held m 3 (List.take (Try.prog.cellsOf 3) [v0, v1, v2, v3, v4, v5]) = some y0 := hf 0 _ rfl
      rw [ci] at e0
      have f0 : DataW.trod enc Try.prog W base sp held m 3 [v0] = some y0 := e0
      have e1 : DataW.trod enc Try.prog W base sp held m 9 (List.take (Try.prog.cellsOf 9) [v1, v2, v3, v4, v5]) = some y1 := hf 1 _ rfl
      rw [cst] at e1
      have f1 : DataW.trod enc Try.prog W base sp held m 9 [v1] = some y1 := e1
      have e2 : DataW.trod enc Try.prog W base sp held m 3 (List.take (Try.prog.cellsOf 3) [v2, v3, v4, v5]) = some y2 := hf 2 _ rfl
      rw [ci] at e2
      have f2 : DataW.trod enc Try.prog W base sp held m 3 [v2] = some y2 := e2
      have e3 : DataW.trod enc Try.prog W base sp held m 3 (List.take (Try.prog.cellsOf 3) [v3, v4, v5]) = some y3 := hf 3 _ rfl
      rw [ci] at e3
      have f3 : DataW.trod enc Try.prog W base sp held m 3 [v3] = some y3 := e3
      have e4 : DataW.trod enc Try.prog W base sp held m 22 (List.take (Try.prog.cellsOf 22) [v4, v5]) = some y4 := hf 4 _ rfl
      rw [cn] at e4
      have f4 : DataW.trod enc Try.prog W base sp held m 22 [v4] = some y4 := e4
      have e5 : DataW.trod enc Try.prog W base sp held m 55 (List.take (Try.prog.cellsOf 55) [v5]) = some y5 := hf 5 _ rfl
      rw [ck] at e5
      have f5 : DataW.trod enc Try.prog W base sp held m 55 [v5] = some y5 := e5
      obtain ⟨k, hk, _, _⟩ := DataW.trod_int Try.underlying3 f0
      obtain rfl : v0 = .int .i64 k := by simpa using hk
      obtain ⟨nm, hnm, _, hns⟩ := DataW.trod_string Try.underlying9 f1
      obtain rfl : v1 = .string nm := by simpa using hnm
      obtain ⟨k2, hk2, _, _⟩ := DataW.trod_int Try.underlying3 f2
      obtain rfl : v2 = .int .i64 k2 := by simpa using hk2
      obtain ⟨k3, hk3, _, _⟩ := DataW.trod_int Try.underlying3 f3
      obtain rfl : v3 = .int .i64 k3 := by simpa using hk3
      obtain ⟨nms, hT, hTl, hTs⟩ := opened_texts f4
      rcases DataW.trod_slice Try.underlying55 f5 with ⟨hcs, _⟩ | ⟨a, len, cap, elems, rest, m2, rfl, hcs, _, hb, hlc, hcm, hel, heach, _, _⟩
      · obtain rfl : v5 = .slice none 0 0 := by simpa using hcs
        exact ⟨⟨k, nm, k2, k3, nms, []⟩, _, _, rfl, hns, ⟨hT, hTl, hTs⟩, by simp, .inl ⟨rfl, _, _, rfl⟩⟩
      · obtain rfl : v5 = .slice (some a) len cap := by simpa using hcs
        rw [c6] at heach
        have each : ∀ i, i < len → ∃ q : Xp × List Value, XpAt W m2 q.2 q.1 ∧ ∀ c u, q.2[c]? = some u → W.cell? ((a.add (i * 6)).add c) = some u := fun i hi => by
          have hi2 := heach i hi
          rw [List.getElem?_eq_getElem (by omega)] at hi2
          obtain ⟨cs', h1, h2⟩ := Option.bind_eq_some_iff.1 hi2
          obtain ⟨t, ht⟩ := ih m2 (by omega) cs' _ h2
          obtain ⟨_, hlen, hcell⟩ := World.cells?_some h1
          refine ⟨(t, cs'), ht, fun c u hu => ?_⟩
          have hc : c < 6 := by
            have : c < cs'.length := (List.getElem?_eq_some_iff.1 hu).1
            omega
          rw [hcell c hc]
          exact hu
        haveI : Inhabited (Xp × List Value) := ⟨(⟨0, ByteArray.empty, 0, 0, [], []⟩, [])⟩
        obtain ⟨q, hq⟩ := Go.Deep.choose_lt each
        refine ⟨⟨k, nm, k2, k3, nms, (List.range len).map fun i => (q i).1⟩, _, _, rfl, hns, ⟨hT, hTl, hTs⟩, by simp; omega, ?_⟩
        by_cases h0 : len = 0
        · subst h0
          exact .inl ⟨rfl, _, _, rfl⟩
        · obtain ⟨b, off, spot⟩ := a
          have hspot : spot = none := by
            obtain ⟨h1, h2⟩ := hq 0 (by omega)
            have hlen := h1.len
            have hc := h2 0 _ (List.getElem?_eq_getElem (by omega))
            simpa [Addr.add] using World.cell?_spot hc
          subst hspot
          refine .inr ⟨b, off, cap, by simp, fun j hj => ?_⟩
          have hj2 : j < len := by simpa using hj
          obtain ⟨h1, h2⟩ := hq j hj2
          refine ⟨(q j).2, ?_, fun c u hu => ?_⟩
          · simp only [List.getElem_map, List.getElem_range]
            exact h1.mono (by omega)
          · have := h2 c u hu
            rw [Addr.add_lit, Addr.add_lit] at this
            exact this

/-- a list that is handed in, opened, each of its elements to a depth -/
theorem opened_rowG {α : Type} [Inhabited α] {H : Type} {enc : TypeId × Value → H} {W : World} {base : Nat} {sp : Nat → Bool} {held : Bool} {T E : TypeId} (z : Nat) (hz : 0 < z) (P : Nat → List Value → α → Prop) (hT : Try.prog.underlying T = some (.slice E)) (hcE : Try.prog.cellsOf E = z) (hl : ∀ n cs t, P n cs t → cs.length = z) (hm : ∀ n m cs t, P n cs t → n ≤ m → P m cs t)
    (one : ∀ m cs x, DataW.trod enc Try.prog W base sp held m E cs = some x → ∃ t, P m cs t) (n : Nat) (v : Value) (x : DataW H × List MemPlace) (h : DataW.trod enc Try.prog W base sp held n T [v] = some x) : ∃ ts : List α, RowG z W (P n) v ts ∧ ts.length ≤ maxLen := by
  rcases DataW.trod_slice hT h with ⟨hcs, _⟩ | ⟨a, len, cap, elems, rest, m2, hn, hcs, _, hb, hlc, hcm, hel, heach, _, _⟩
  · obtain rfl : v = .slice none 0 0 := by simpa using hcs
    exact ⟨[], .inl ⟨rfl, _, _, rfl⟩, by simp⟩
  · obtain rfl : v = .slice (some a) len cap := by simpa using hcs
    rw [hcE] at heach
    have each : ∀ i, i < len → ∃ q : α × List Value, P m2 q.2 q.1 ∧ ∀ c u, q.2[c]? = some u → W.cell? ((a.add (i * z)).add c) = some u := fun i hi => by
      have hi2 := heach i hi
      rw [List.getElem?_eq_getElem (by omega)] at hi2
      obtain ⟨cs', h1, h2⟩ := Option.bind_eq_some_iff.1 hi2
      obtain ⟨t, ht⟩ := one m2 cs' _ h2
      obtain ⟨_, hlen, hcell⟩ := World.cells?_some h1
      refine ⟨(t, cs'), ht, fun c u hu => ?_⟩
      have hc : c < z := by
        have : c < cs'.length := (List.getElem?_eq_some_iff.1 hu).1
        omega
      rw [hcell c hc]
      exact hu
    haveI : Inhabited (α × List Value) := ⟨(default, [])⟩
    obtain ⟨q, hq⟩ := Go.Deep.choose_lt each
    refine ⟨(List.range len).map fun i => (q i).1, ?_, by simp; omega⟩
    by_cases h0 : len = 0
    · subst h0
      exact .inl ⟨rfl, _, _, rfl⟩
    · obtain ⟨b, off, spot⟩ := a
      have hspot : spot = none := by
        obtain ⟨h1, h2⟩ := hq 0 (by omega)
        have hlen := hl _ _ _ h1
        have hc := h2 0 _ (List.getElem?_eq_getElem (by omega))
        simpa [Addr.add] using World.cell?_spot hc
      subst hspot
      refine .inr ⟨b, off, cap, by simp, fun j hj => ?_⟩
      have hj2 : j < len := by simpa using hj
      obtain ⟨h1, h2⟩ := hq j hj2
      refine ⟨(q j).2, ?_, fun c u hu => ?_⟩
      · simp only [List.getElem_map, List.getElem_range]
        exact hm _ _ _ _ h1 (by omega)
      · have := h2 c u hu
        rw [Addr.add_lit, Addr.add_lit] at this
        exact this

theorem DfAt.mono {w : World} {n m : Nat} {cs : List Value} {t : Df} (h : DfAt w n cs t) (hnm : n ≤ m) : DfAt w m cs t := by
  obtain ⟨vp, vt, t0, t1, t2, t3, x0, x1, x2, x3, x4, x5, e, h1, h2, ⟨h4, h5⟩, h6, h7⟩ := h
  exact ⟨vp, vt, t0, t1, t2, t3, x0, x1, x2, x3, x4, x5, e, h1, h2, ⟨h4, h5.map fun _ _ _ h => h.mono hnm⟩, h6.mono hnm, h7.mono hnm⟩
set_option maxRecDepth 100000 in
theorem opened_df {H : Type} {enc : TypeId × Value → H} {W : World} {base : Nat} {sp : Nat → Bool} {held : Bool} (n : Nat) (cs : List Value) (x : DataW H × List MemPlace) (h : DataW.trod enc Try.prog W base sp held n 59 cs = some x) : ∃ t : Df, DfAt W n cs t := by
  have c16 : Try.prog.cellsOf 59 = 16 := by kernel_rfl
  have q0 : Try.prog.cellsOf 3 = 1 := by kernel_rfl
  have q1 : Try.prog.cellsOf 9 = 1 := by kernel_rfl
  have q2 : Try.prog.cellsOf 22 = 1 := by kernel_rfl
  have q3 : Try.prog.cellsOf 52 = 1 := by kernel_rfl
  have q4 : Try.prog.cellsOf 4 = 1 := by kernel_rfl
  have q5 : Try.prog.cellsOf 54 = 4 := by kernel_rfl
  have q6 : Try.prog.cellsOf 57 = 6 := by kernel_rfl
  obtain ⟨xs, m, rfl, rfl, hl, hxl, hf⟩ := DataW.trod_struct Try.underlying59 h
  rw [c16] at hl
  have hxl8 : xs.length = 8 := hxl
  obtain ⟨v0, v1, v2, v3, v4, v5, v6, v7, v8, v9, v10, v11, v12, v13, v14, v15, rfl⟩ := cells16 hl
  obtain ⟨y0, y1, y2, y3, y4, y5, y6, y7, rfl⟩ : ∃ y0 y1 y2 y3 y4 y5 y6 y7, xs = [y0, y1, y2, y3, y4, y5, y6, y7] := by
    match xs, hxl8 with
    | [y0, y1, y2, y3, y4, y5, y6, y7], _ => exact ⟨y0, y1, y2, y3, y4, y5, y6, y7, rfl⟩
  have e0 : DataW.trod enc Try.prog W base sp held m 3 (List.take (Try.prog.cellsOf 3) [v0, v1, v2, v3, v4, v5, v6, v7, v8, v9, v10, v11, v12, v13, v14, v15]) = some y0 := hf 0 _ rfl
  rw [q0] at e0
  have f0 : DataW.trod enc Try.prog W base sp held m 3 [v0] = some y0 := e0
  have e1 : DataW.trod enc Try.prog W base sp held m 9 (List.take (Try.prog.cellsOf 9) [v1, v2, v3, v4, v5, v6, v7, v8, v9, v10, v11, v12, v13, v14, v15]) = some y1 := hf 1 _ rfl
  rw [q1] at e1
  have f1 : DataW.trod enc Try.prog W base sp held m 9 [v1] = some y1 := e1
  have e2 : DataW.trod enc Try.prog W base sp held m 3 (List.take (Try.prog.cellsOf 3) [v2, v3, v4, v5, v6, v7, v8, v9, v10, v11, v12, v13, v14, v15]) = some y2 := hf 2 _ rfl
  rw [q0] at e2
  have f2 : DataW.trod enc Try.prog W base sp held m 3 [v2] = some y2 := e2
  have e3 : DataW.trod enc Try.prog W base sp held m 22 (List.take (Try.prog.cellsOf 22) [v3, v4, v5, v6, v7, v8, v9, v10, v11, v12, v13, v14, v15]) = some y3 := hf 3 _ rfl
  rw [q2] at e3
  have f3 : DataW.trod enc Try.prog W base sp held m 22 [v3] = some y3 := e3
  have e4 : DataW.trod enc Try.prog W base sp held m 52 (List.take (Try.prog.cellsOf 52) [v4, v5, v6, v7, v8, v9, v10, v11, v12, v13, v14, v15]) = some y4 := hf 4 _ rfl
  rw [q3] at e4
  have f4 : DataW.trod enc Try.prog W base sp held m 52 [v4] = some y4 := e4
  have e5 : DataW.trod enc Try.prog W base sp held m 4 (List.take (Try.prog.cellsOf 4) [v5, v6, v7, v8, v9, v10, v11, v12, v13, v14, v15]) = some y5 := hf 5 _ rfl
  rw [q4] at e5
  have f5 : DataW.trod enc Try.prog W base sp held m 4 [v5] = some y5 := e5
  have e6 : DataW.trod enc Try.prog W base sp held m 54 (List.take (Try.prog.cellsOf 54) [v6, v7, v8, v9, v10, v11, v12, v13, v14, v15]) = some y6 := hf 6 _ rfl
  rw [q5] at e6
  have f6 : DataW.trod enc Try.prog W base sp held m 54 [v6, v7, v8, v9] = some y6 := e6
  have e7 : DataW.trod enc Try.prog W base sp held m 57 (List.take (Try.prog.cellsOf 57) [v10, v11, v12, v13, v14, v15]) = some y7 := hf 7 _ rfl
  rw [q6] at e7
  have f7 : DataW.trod enc Try.prog W base sp held m 57 [v10, v11, v12, v13, v14, v15] = some y7 := e7
  obtain ⟨k, hk, _, _⟩ := DataW.trod_int Try.underlying3 f0
  obtain rfl : v0 = .int .i64 k := by simpa using hk
  obtain ⟨nm, hnm, _, hns⟩ := DataW.trod_string Try.underlying9 f1
  obtain rfl : v1 = .string nm := by simpa using hnm
  obtain ⟨k2, hk2, _, _⟩ := DataW.trod_int Try.underlying3 f2
  obtain rfl : v2 = .int .i64 k2 := by simpa using hk2
  obtain ⟨ps, hT, hTl, hTs⟩ := opened_texts f3
  haveI : Inhabited Ty := ⟨.mk 0 ByteArray.empty [] []⟩
  obtain ⟨ts, hr, hrl⟩ := opened_rowG (E := 54) 4 (by decide) (fun n => TyAt W n) Try.underlying52 (by kernel_rfl) (fun _ _ _ h => h.len) (fun _ _ _ _ h k => h.mono k) opened_ty m _ _ f4
  obtain ⟨bo, hb, _⟩ := DataW.trod_bool Try.underlying4 f5
  obtain rfl : v5 = .bool bo := by simpa using hb
  obtain ⟨ty, hty⟩ := opened_ty m _ _ f6
  obtain ⟨ex, hex⟩ := opened_xp m _ _ f7
  exact ⟨⟨k, nm, k2, ps, ts, bo, ty, ex⟩, _, _, _, _, _, _, _, _, _, _, _, _, rfl, hns, ⟨hT, hTl, hTs⟩, ⟨hrl, RowAt.map (R := TyAt W m) hr fun _ _ _ h => h.mono (by omega)⟩, hty.mono (by omega), hex.mono (by omega)⟩

set_option maxRecDepth 100000 in
theorem opened_md {H : Type} {enc : TypeId × Value → H} {W : World} {base : Nat} {sp : Nat → Bool} {held : Bool} (n : Nat) (cs : List Value) (x : DataW H × List MemPlace) (h : DataW.trod enc Try.prog W base sp held n 25 cs = some x) : ∃ (vi vd : Value) (im : List ByteArray) (ds : List Df), cs = [vi, vd] ∧ MdAt W n vi vd im ds := by
  have c2 : Try.prog.cellsOf 25 = 2 := by kernel_rfl
  have q0 : Try.prog.cellsOf 22 = 1 := by kernel_rfl
  have q1 : Try.prog.cellsOf 23 = 1 := by kernel_rfl
  obtain ⟨xs, m, rfl, rfl, hl, hxl, hf⟩ := DataW.trod_struct Try.underlying25 h
  rw [c2] at hl
  have hxl2 : xs.length = 2 := hxl
  match cs, hl, xs, hxl2 with
  | [v0, v1], _, [y0, y1], _ =>
    have e0 : DataW.trod enc Try.prog W base sp held m 22 (List.take (Try.prog.cellsOf 22) [v0, v1]) = some y0 := hf 0 _ rfl
    rw [q0] at e0
    have f0 : DataW.trod enc Try.prog W base sp held m 22 [v0] = some y0 := e0
    have e1 : DataW.trod enc Try.prog W base sp held m 23 (List.take (Try.prog.cellsOf 23) [v1]) = some y1 := hf 1 _ rfl
    rw [q1] at e1
    have f1 : DataW.trod enc Try.prog W base sp held m 23 [v1] = some y1 := e1
    obtain ⟨im, hT, hTl, hTs⟩ := opened_texts f0
    haveI : Inhabited Df := ⟨⟨0, ByteArray.empty, 0, [], [], false, .mk 0 ByteArray.empty [] [], ⟨0, ByteArray.empty, 0, 0, [], []⟩⟩⟩
    obtain ⟨ds, hr, hrl⟩ := opened_rowG (E := 59) 16 (by decide) (fun n => DfAt W n) Try.underlying23 (by kernel_rfl) (fun _ _ _ h => h.len) (fun _ _ _ _ h k => h.mono k) opened_df m _ _ f1
    exact ⟨v0, v1, im, ds, rfl, ⟨hT, hTl, hTs⟩, hrl, hr.below (Below.refl _ _) fun _ _ _ h => h.mono (by omega)⟩

end Go.Proofs.Ytegdladpkikicaa
