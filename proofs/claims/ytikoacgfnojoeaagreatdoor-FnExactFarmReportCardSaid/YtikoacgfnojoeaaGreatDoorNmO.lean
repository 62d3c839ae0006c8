/-
  A list of names and types that is handed in, opened.
-/
import Derived.Test.YtikoacgfnojoeaaGreatDoorNmD
import Derived.Test.YtikoacgfnojoeaaGreatDoorTyO
namespace Go.Proofs.YtikoacgfnojoeaaGreatDoor
open Go.ChangeShapes Go.WideShapes Go.ChangeAt Go.RowKit

set_option maxRecDepth 100000 in
theorem opened_nm {H : Type} {enc : TypeId × Value → H} {W : World} {base : Nat} {sp : Nat → Bool} {held : Bool} (n : Nat) (cs : List Value) (x : DataW H × List MemPlace) (h : DataW.trod enc Tryz.prog W base sp held n 174 cs = some x) : ∃ e : ByteArray × Ty, NmAt W n cs e := by
  have c5 : Tryz.prog.cellsOf 174 = 5 := by kernel_rfl
  have c4 : Tryz.prog.cellsOf 172 = 4 := by kernel_rfl
  have cst : Tryz.prog.cellsOf 9 = 1 := by kernel_rfl
  obtain ⟨xs, m, rfl, rfl, hl, hxl, hf⟩ := DataW.trod_struct Tryz.underlying174 h
  rw [c5] at hl
  have hxl2 : xs.length = 2 := hxl
  match cs, hl, xs, hxl2 with
  | [v0, v1, v2, v3, v4], _, [y0, y1], _ =>
    have e0 : DataW.trod enc Tryz.prog W base sp held m 9 (List.take (Tryz.prog.cellsOf 9) [v0, v1, v2, v3, v4]) = some y0 := hf 0 _ rfl
    rw [cst] at e0
    have f0 : DataW.trod enc Tryz.prog W base sp held m 9 [v0] = some y0 := e0
    have e1 : DataW.trod enc Tryz.prog W base sp held m 172 (List.take (Tryz.prog.cellsOf 172) [v1, v2, v3, v4]) = some y1 := hf 1 _ rfl
    rw [c4] at e1
    have f1 : DataW.trod enc Tryz.prog W base sp held m 172 [v1, v2, v3, v4] = some y1 := e1
    obtain ⟨nm, hnm, _, hns⟩ := DataW.trod_string Tryz.underlying9 f0
    obtain rfl : v0 = .string nm := by simpa using hnm
    obtain ⟨t, ht⟩ := opened_ty m _ _ f1
    exact ⟨(nm, t), [v1, v2, v3, v4], rfl, hns, ht.mono (by omega)⟩

set_option maxRecDepth 100000 in
theorem opened_env {H : Type} {enc : TypeId × Value → H} {W : World} {base : Nat} {sp : Nat → Bool} {held : Bool} (n : Nat) (v : Value) (x : DataW H × List MemPlace) (h : DataW.trod enc Tryz.prog W base sp held n 88 [v] = some x) : ∃ (m : Nat) (es : List (ByteArray × Ty)), EnvAt W m v es ∧ es.length ≤ maxLen := by
  have c5 : Tryz.prog.cellsOf 174 = 5 := by kernel_rfl
  rcases DataW.trod_slice Tryz.underlying88 h with ⟨hcs, _⟩ | ⟨a, len, cap, elems, rest, m2, rfl, hcs, _, hb, hlc, hcm, hel, heach, _, _⟩
  · obtain rfl : v = .slice none 0 0 := by simpa using hcs
    exact ⟨0, [], .inl ⟨rfl, _, _, rfl⟩, by simp⟩
  · obtain rfl : v = .slice (some a) len cap := by simpa using hcs
    rw [c5] at heach
    have each : ∀ i, i < len → ∃ q : (ByteArray × Ty) × List Value, NmAt W m2 q.2 q.1 ∧ ∀ c u, q.2[c]? = some u → W.cell? ((a.add (i * 5)).add c) = some u := fun i hi => by
      have hi2 := heach i hi
      rw [List.getElem?_eq_getElem (by omega)] at hi2
      obtain ⟨cs', h1, h2⟩ := Option.bind_eq_some_iff.1 hi2
      obtain ⟨t, ht⟩ := opened_nm m2 cs' _ h2
      obtain ⟨_, hlen, hcell⟩ := World.cells?_some h1
      refine ⟨(t, cs'), ht, fun c u hu => ?_⟩
      have hc : c < 5 := by
        have : c < cs'.length := (List.getElem?_eq_some_iff.1 hu).1
        omega
      rw [hcell c hc]
      exact hu
    haveI : Inhabited ((ByteArray × Ty) × List Value) := ⟨((ByteArray.empty, .mk 0 ByteArray.empty [] []), [])⟩
    obtain ⟨q, hq⟩ := Go.Deep.choose_lt each
    refine ⟨m2, (List.range len).map fun i => (q i).1, ?_, by simp; omega⟩
    by_cases h0 : len = 0
    · subst h0
      exact .inl ⟨rfl, _, _, rfl⟩
    · obtain ⟨b, off, spot⟩ := a
      have hspot : spot = none := by
        obtain ⟨h1, h2⟩ := hq 0 (by omega)
        have hlen := h1.len
        have hc := h2 0 _ (List.getElem?_eq_getElem (by omega))
        simpa [Addr.add] using World.cell?_spot hc
      subst hspot
      refine .inr ⟨b, off, cap, by simp, fun j hj => ?_⟩
      have hj2 : j < len := by simpa using hj
      obtain ⟨h1, h2⟩ := hq j hj2
      refine ⟨(q j).2, ?_, fun c u hu => ?_⟩
      · simp only [List.getElem_map, List.getElem_range]
        exact h1
      · have := h2 c u hu
        rw [Addr.add_lit, Addr.add_lit] at this
        exact this

end Go.Proofs.YtikoacgfnojoeaaGreatDoor
