/-
  A store that is handed in, opened.
-/
import Derived.Test.YtikoacgfnojoeaaGreatDoorItD
import Derived.ProofKit
import Derived.OpenShut
namespace Go.Proofs.YtikoacgfnojoeaaGreatDoor
open Go.ChangeShapes Go.WideShapes Go.ChangeAt Go.RowKit

set_option maxRecDepth 100000 in
theorem opened_it {H : Type} {enc : TypeId × Value → H} {W : World} {base : Nat} {sp : Nat → Bool} {held : Bool} (n : Nat) (cs : List Value) (x : DataW H × List MemPlace) (h : DataW.trod enc Tryz.prog W base sp held n 128 cs = some x) : ∃ e : Itm, cs = [.string e.1, .string e.2.1, .string e.2.2] ∧ e.1.size ≤ maxLen ∧ e.2.1.size ≤ maxLen ∧ e.2.2.size ≤ maxLen := by
  have c3 : Tryz.prog.cellsOf 128 = 3 := by kernel_rfl
  have cst : Tryz.prog.cellsOf 9 = 1 := by kernel_rfl
  obtain ⟨xs, m, rfl, rfl, hl, hxl, hf⟩ := DataW.trod_struct Tryz.underlying128 h
  rw [c3] at hl
  have hxl3 : xs.length = 3 := hxl
  match cs, hl, xs, hxl3 with
  | [v0, v1, v2], _, [y0, y1, y2], _ =>
    have e0 : DataW.trod enc Tryz.prog W base sp held m 9 (List.take (Tryz.prog.cellsOf 9) [v0, v1, v2]) = some y0 := hf 0 _ rfl
    rw [cst] at e0
    have f0 : DataW.trod enc Tryz.prog W base sp held m 9 [v0] = some y0 := e0
    have e1 : DataW.trod enc Tryz.prog W base sp held m 9 (List.take (Tryz.prog.cellsOf 9) [v1, v2]) = some y1 := hf 1 _ rfl
    rw [cst] at e1
    have f1 : DataW.trod enc Tryz.prog W base sp held m 9 [v1] = some y1 := e1
    have e2 : DataW.trod enc Tryz.prog W base sp held m 9 (List.take (Tryz.prog.cellsOf 9) [v2]) = some y2 := hf 2 _ rfl
    rw [cst] at e2
    have f2 : DataW.trod enc Tryz.prog W base sp held m 9 [v2] = some y2 := e2
    obtain ⟨a, ha, _, hsa⟩ := DataW.trod_string Tryz.underlying9 f0
    obtain ⟨b, hb, _, hsb⟩ := DataW.trod_string Tryz.underlying9 f1
    obtain ⟨c, hc, _, hsc⟩ := DataW.trod_string Tryz.underlying9 f2
    obtain rfl : v0 = .string a := by simpa using ha
    obtain rfl : v1 = .string b := by simpa using hb
    obtain rfl : v2 = .string c := by simpa using hc
    exact ⟨(a, b, c), rfl, hsa, hsb, hsc⟩

set_option maxRecDepth 100000 in
theorem opened_its {H : Type} {enc : TypeId × Value → H} {W : World} {base : Nat} {sp : Nat → Bool} {held : Bool} (n : Nat) (v : Value) (x : DataW H × List MemPlace) (h : DataW.trod enc Tryz.prog W base sp held n 27 [v] = some x) : ∃ es : List Itm, ItAt W v es ∧ es.length ≤ maxLen ∧ ∀ e ∈ es, e.1.size ≤ maxLen ∧ e.2.1.size ≤ maxLen ∧ e.2.2.size ≤ maxLen := by
  have c3 : Tryz.prog.cellsOf 128 = 3 := by kernel_rfl
  rcases DataW.trod_slice Tryz.underlying27 h with ⟨hcs, _⟩ | ⟨a, len, cap, elems, rest, m2, rfl, hcs, _, hb, hlc, hcm, hel, heach, _, _⟩
  · obtain rfl : v = .slice none 0 0 := by simpa using hcs
    exact ⟨[], .inl ⟨rfl, _, _, rfl⟩, by simp, by simp⟩
  · obtain rfl : v = .slice (some a) len cap := by simpa using hcs
    rw [c3] at heach
    have each : ∀ i, i < len → ∃ q : Itm, (q.1.size ≤ maxLen ∧ q.2.1.size ≤ maxLen ∧ q.2.2.size ≤ maxLen) ∧ ∀ c u, [Value.string q.1, Value.string q.2.1, Value.string q.2.2][c]? = some u → W.cell? ((a.add (i * 3)).add c) = some u := fun i hi => by
      have hi2 := heach i hi
      rw [List.getElem?_eq_getElem (by omega)] at hi2
      obtain ⟨cs', h1, h2⟩ := Option.bind_eq_some_iff.1 hi2
      obtain ⟨t, rfl, ht1, ht2, ht3⟩ := opened_it m2 cs' _ h2
      obtain ⟨_, hlen, hcell⟩ := World.cells?_some h1
      refine ⟨t, ⟨ht1, ht2, ht3⟩, fun c u hu => ?_⟩
      have hc : c < 3 := by
        have : c < [Value.string t.1, Value.string t.2.1, Value.string t.2.2].length := (List.getElem?_eq_some_iff.1 hu).1
        simpa using this
      rw [hcell c hc]
      exact hu
    haveI : Inhabited Itm := ⟨(ByteArray.empty, ByteArray.empty, ByteArray.empty)⟩
    obtain ⟨q, hq⟩ := Go.Deep.choose_lt each
    refine ⟨(List.range len).map fun i => q i, ?_, by simp; omega, fun e he => ?_⟩
    · by_cases h0 : len = 0
      · subst h0
        exact .inl ⟨rfl, _, _, rfl⟩
      · obtain ⟨b, off, spot⟩ := a
        have hspot : spot = none := by
          obtain ⟨h1, h2⟩ := hq 0 (by omega)
          have hc := h2 0 _ rfl
          simpa [Addr.add] using World.cell?_spot hc
        subst hspot
        refine .inr ⟨b, off, cap, by simp, fun j hj => ?_⟩
        have hj2 : j < len := by simpa using hj
        obtain ⟨h1, h2⟩ := hq j hj2
        simp only [List.getElem_map, List.getElem_range]
        have g0 := h2 0 _ rfl
        have g1 := h2 1 _ rfl
        have g2 := h2 2 _ rfl
        rw [Addr.add_lit, Addr.add_lit] at g0 g1 g2
        exact ⟨g0, g1, g2⟩
    · obtain ⟨i, hi, rfl⟩ := List.mem_map.1 he
      exact (hq i (by simpa using hi)).1

set_option maxRecDepth 100000 in
theorem opened_store {H : Type} {enc : TypeId × Value → H} {W : World} {base : Nat} {sp : Nat → Bool} {held : Bool} (n : Nat) (cs : List Value) (x : DataW H × List MemPlace) (h : DataW.trod enc Tryz.prog W base sp held n 29 cs = some x) : ∃ (room : Int) (v : Value) (es : List Itm), cs = [.int .i64 room, v] ∧ (-9223372036854775808 ≤ room ∧ room ≤ 9223372036854775807) ∧ ItAt W v es ∧ es.length ≤ maxLen ∧ ∀ e ∈ es, e.1.size ≤ maxLen ∧ e.2.1.size ≤ maxLen ∧ e.2.2.size ≤ maxLen := by
  have c2 : Tryz.prog.cellsOf 29 = 2 := by kernel_rfl
  have ci : Tryz.prog.cellsOf 3 = 1 := by kernel_rfl
  have cs1 : Tryz.prog.cellsOf 27 = 1 := by kernel_rfl
  obtain ⟨xs, m, rfl, rfl, hl, hxl, hf⟩ := DataW.trod_struct Tryz.underlying29 h
  rw [c2] at hl
  have hxl2 : xs.length = 2 := hxl
  match cs, hl, xs, hxl2 with
  | [v0, v1], _, [y0, y1], _ =>
    have e0 : DataW.trod enc Tryz.prog W base sp held m 3 (List.take (Tryz.prog.cellsOf 3) [v0, v1]) = some y0 := hf 0 _ rfl
    rw [ci] at e0
    have f0 : DataW.trod enc Tryz.prog W base sp held m 3 [v0] = some y0 := e0
    have e1 : DataW.trod enc Tryz.prog W base sp held m 27 (List.take (Tryz.prog.cellsOf 27) [v1]) = some y1 := hf 1 _ rfl
    rw [cs1] at e1
    have f1 : DataW.trod enc Tryz.prog W base sp held m 27 [v1] = some y1 := e1
    obtain ⟨k, hk, _, hwf⟩ := DataW.trod_int Tryz.underlying3 f0
    obtain rfl : v0 = .int .i64 k := by simpa using hk
    have hx : -9223372036854775808 ≤ k ∧ k ≤ 9223372036854775807 := by simpa [Lit.wf, IntKind.min, IntKind.max, IntKind.signed, IntKind.bits] using hwf
    obtain ⟨es, h1, h2, h3⟩ := opened_its m _ _ f1
    exact ⟨k, v1, es, rfl, hx, h1, h2, h3⟩

end Go.Proofs.YtikoacgfnojoeaaGreatDoor
