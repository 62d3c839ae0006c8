/-
  Four tables that a row lists: what the third and the fourth of them hold.
  A type that is handed in, opened: the four cells that are read as a type hold a tree.
-/
import Derived.Test.YtbojmbeopnlmiaaGreatDoorMkZ
import Derived.Lib.LaidTab
import Derived.Lib.AppendIntMem
import Derived.ProofKit
import Derived.OpenShut
import Derived.OpenVars
import Derived.ChangeVars
import Derived.Test.YtbojmbeopnlmiaaGreatDoorTyD
import Derived.Deep.Strs
namespace Go.Proofs.YtbojmbeopnlmiaaGreatDoor
open Go.RowKit Go.ChangeShapes Go.WideShapes Go.ChangeAt

theorem thirdOf4 {P : Program} {W : World} {n1 n2 n3 n4 : String} {d1 d2 d4 : DataW Unit} {k : IntKind} {zs : List Int} {g : Nat} {t e : TypeId} {n : Nat}
    (hg : P.globalNamed n3 = some g) (hty : (P.globals[g]?).map (·.type) = some t) (ht : P.underlying t = some (.array n e)) (he : P.underlying e = some (.int k)) (hce : P.cellsOf e = 1) (hct : P.cellsOf t = n)
    (h : laidMet P [(n1, d1), (n2, d2), (n3, Lib.tabData k zs), (n4, d4)] W) : Lib.TabIs P W n3 k zs := by
  obtain ⟨ps, ⟨_, _, _, _, _, _, _, _, _, _, ⟨_, _, _, _, _, _, _, _, _, _, ⟨g', t', cs, fuel, p, q, hg', ht', hvar, hd, _, _⟩, _⟩, _⟩, _⟩ := h
  obtain rfl := Option.some.inj (hg.symm.trans hg')
  obtain rfl := Option.some.inj (hty.symm.trans ht')
  unfold Lib.TabIs
  rw [hvar, ← Lib.cells_of_tab ht he hce hct hd]

theorem fourthOf4 {P : Program} {W : World} {n1 n2 n3 n4 : String} {d1 d2 d3 : DataW Unit} {k : IntKind} {zs : List Int} {g : Nat} {t e : TypeId} {n : Nat}
    (hg : P.globalNamed n4 = some g) (hty : (P.globals[g]?).map (·.type) = some t) (ht : P.underlying t = some (.array n e)) (he : P.underlying e = some (.int k)) (hce : P.cellsOf e = 1) (hct : P.cellsOf t = n)
    (h : laidMet P [(n1, d1), (n2, d2), (n3, d3), (n4, Lib.tabData k zs)] W) : Lib.TabIs P W n4 k zs := by
  obtain ⟨ps, ⟨_, _, _, _, _, _, _, _, _, _, ⟨_, _, _, _, _, _, _, _, _, _, ⟨_, _, _, _, _, _, _, _, _, _, ⟨g', t', cs, fuel, p, q, hg', ht', hvar, hd, _, _⟩, _⟩, _⟩, _⟩, _⟩ := h
  obtain rfl := Option.some.inj (hg.symm.trans hg')
  obtain rfl := Option.some.inj (hty.symm.trans ht')
  unfold Lib.TabIs
  rw [hvar, ← Lib.cells_of_tab ht he hce hct hd]

theorem powDatum4 : (Rows.laid_internal_strconv_uint64pow10 : DataW Unit) = Lib.tabData .u64 Lib.pow10Tab := by kernel_rfl
def clsTab4 : List Int := (List.range 128).map fun i => (Lx.cls i : Int)
theorem clsDatum4 : (Rows.laid_loop_example_g00276_impl_classes : DataW Unit) = Lib.tabData .u8 clsTab4 := by kernel_rfl
theorem gCls4 : Tryz.prog.globalNamed "loop.example/g00276/impl.classes" = some 0 := by kernel_rfl
theorem gClsType4 : (Tryz.prog.globals[0]?).map (·.type) = some 170 := by kernel_rfl
theorem gPow4 : Tryz.prog.globalNamed "internal/strconv.uint64pow10" = some 1 := by kernel_rfl
theorem gPowType4 : (Tryz.prog.globals[1]?).map (·.type) = some 178 := by kernel_rfl
theorem clsIs4 {W : World} (h : Lib.TabIs Tryz.prog W "loop.example/g00276/impl.classes" .u8 clsTab4) : ClsIs W := fun i hi => by
  have := h.cell gCls4 i (by simp [clsTab4]; exact hi)
  rw [this]
  simp [clsTab4, List.getD, hi]

/-- what a row asks whose four tables are these -/
theorem tables4 {W : World} (h : laidMet Tryz.prog [("math/bits.deBruijn32tab", Rows.laid_math_bits_deBruijn32tab), ("math/bits.deBruijn64tab", Rows.laid_math_bits_deBruijn64tab), ("internal/strconv.uint64pow10", Rows.laid_internal_strconv_uint64pow10), ("loop.example/g00276/impl.classes", Rows.laid_loop_example_g00276_impl_classes)] W) : ClsIs W ∧ Lib.TabIs Tryz.prog W "internal/strconv.uint64pow10" .u64 Lib.pow10Tab := by
  refine ⟨?_, ?_⟩
  · rw [clsDatum4] at h
    exact clsIs4 (fourthOf4 gCls4 gClsType4 Tryz.underlying170 Tryz.underlying5 (by kernel_rfl) (by kernel_rfl) h)
  · rw [powDatum4] at h
    exact thirdOf4 gPow4 gPowType4 Tryz.underlying178 Tryz.underlying82 (by kernel_rfl) (by kernel_rfl) h

def u8s4 (l : List Int) : Array Value := (l.map fun z => Value.int .u8 z).toArray
def bare32x : List Int := [0, 1, 28, 2, 29, 14, 24, 3, 30, 22, 20, 15, 25, 17, 4, 8, 31, 27, 13, 23, 21, 19, 16, 7, 26, 12, 18, 6, 11, 5, 10, 9]
def bare64x : List Int := [0, 1, 56, 2, 57, 49, 28, 3, 61, 58, 42, 50, 38, 29, 17, 4, 62, 47, 59, 36, 45, 43, 51, 22, 53, 39, 33, 30, 24, 18, 12, 5, 63, 55, 48, 27, 60, 41, 37, 16, 46, 35, 44, 21, 52, 32, 23, 11, 54, 26, 40, 15, 34, 20, 31, 10, 25, 14, 19, 9, 13, 8, 7, 6]
def fill4 (cs : Array Value) : Obj → Obj
  | .cells _ t frozen => .cells cs t frozen
  | o => o
def laidWorld4 (P : Program) (os : Os) : World :=
  { World.holding P os ⟨#[], #[], []⟩ with heap := ((((World.holding P os ⟨#[], #[], []⟩).heap.modify 1 (fill4 (Lib.pow10Tab.map fun z => Value.int .u64 z).toArray)).modify 3 (fill4 (u8s4 bare32x))).modify 4 (fill4 (u8s4 bare64x))).modify 0 (fill4 (clsTab4.map fun z => Value.int .u8 z).toArray) }

end Go.Proofs.YtbojmbeopnlmiaaGreatDoor

namespace Go.Proofs.YtbojmbeopnlmiaaGreatDoor
open Go.ChangeShapes Go.WideShapes Go.ChangeAt Go.RowKit

theorem RowAt.map {w : World} {R R' : List Value → Ty → Prop} {v : Value} {ts : List Ty} (h : RowAt w R v ts) (hR : ∀ cs t, t ∈ ts → R cs t → R' cs t) : RowAt w R' v ts := h.below (Below.refl _ _) hR

theorem TyAt.mono {w : World} {n m : Nat} {cs : List Value} {t : Ty} (h : TyAt w n cs t) (hnm : n ≤ m) : TyAt w m cs t := by
  induction n generalizing m cs t with
  | zero => exact h.elim
  | succ n ih =>
    obtain ⟨k, rfl⟩ : ∃ k, m = k + 1 := ⟨m - 1, by omega⟩
    obtain ⟨vn, vk, h1, h2, h3, h4, h5, h6⟩ := h
    exact ⟨vn, vk, h1, h2, h3, h4, h5, h6.map fun cs t _ h => ih h (by omega)⟩

theorem opened_texts {H : Type} {enc : TypeId × Value → H} {W : World} {base : Nat} {sp : Nat → Bool} {held : Bool} {fuel : Nat} {v : Value} {x : DataW H × List MemPlace} (h : DataW.trod enc Tryz.prog W base sp held fuel 22 [v] = some x) :
    ∃ ts, Texts W v ts ∧ ts.length ≤ maxLen ∧ ∀ t ∈ ts, t.size ≤ maxLen := by
  rcases open_strings Tryz.underlying22 Tryz.underlying9 (by kernel_rfl) h with ⟨hcs, _⟩ | ⟨a, l, c, ss, hcs, _, hlc, hm, hz, _, hcell, hws⟩
  · obtain rfl : v = .slice none 0 0 := by simpa using hcs
    exact ⟨[], .inl ⟨rfl, _, _, rfl⟩, by simp, by simp⟩
  · obtain rfl : v = .slice (some a) l c := by simpa using hcs
    have hzl : l ≤ ss.length := by rw [hz]; split <;> omega
    have hlen : (ss.take l).length = l := by simp; omega
    refine ⟨ss.take l, ?_, by omega, fun t ht => hws t (List.mem_of_mem_take ht)⟩
    by_cases h00 : l = 0
    · subst h00
      exact .inl ⟨by simp, _, _, rfl⟩
    · obtain ⟨b, off, spot⟩ := a
      have hc := hcell 0 (by omega)
      have hspot : spot = none := by simpa [Addr.add] using World.cell?_spot hc
      subst hspot
      refine .inr ⟨b, off, c, by rw [hlen], fun j hj => ?_⟩
      have hjl : j < ss.length := by omega
      have := hcell j hjl
      rw [Addr.add_lit] at this
      rw [this]
      simp [hjl]

set_option maxRecDepth 100000 in
theorem opened_ty {H : Type} {enc : TypeId × Value → H} {W : World} {base : Nat} {sp : Nat → Bool} {held : Bool} : ∀ (n : Nat) (cs : List Value) (x : DataW H × List MemPlace),
    DataW.trod enc Tryz.prog W base sp held n 25 cs = some x → ∃ t : Ty, TyAt W n cs t := by
  intro n
  induction n using Nat.strongRecOn with
  | ind n ih =>
    intro cs x h
    have c4 : Tryz.prog.cellsOf 25 = 4 := by kernel_rfl
    have ci : Tryz.prog.cellsOf 3 = 1 := by kernel_rfl
    have cst : Tryz.prog.cellsOf 9 = 1 := by kernel_rfl
    have cn : Tryz.prog.cellsOf 22 = 1 := by kernel_rfl
    have ck : Tryz.prog.cellsOf 23 = 1 := by kernel_rfl
    obtain ⟨xs, m, rfl, rfl, hl, hxl, hf⟩ := DataW.trod_struct Tryz.underlying25 h
    rw [c4] at hl
    have hxl4 : xs.length = 4 := hxl
    match cs, hl, xs, hxl4 with
    | [v0, v1, v2, v3], _, [y0, y1, y2, y3], _ =>
      have e0 : DataW.trod enc Tryz.prog W base sp held m 3 (List.take (Tryz.prog.cellsOf 3) [v0, v1, v2, v3]) = some y0 := hf 0 _ rfl
      rw [ci] at e0
      have f0 : DataW.trod enc Tryz.prog W base sp held m 3 [v0] = some y0 := e0
      have e1 : DataW.trod enc Tryz.prog W base sp held m 9 (List.take (Tryz.prog.cellsOf 9) [v1, v2, v3]) = some y1 := hf 1 _ rfl
      rw [cst] at e1
      have f1 : DataW.trod enc Tryz.prog W base sp held m 9 [v1] = some y1 := e1
      have e2 : DataW.trod enc Tryz.prog W base sp held m 22 (List.take (Tryz.prog.cellsOf 22) [v2, v3]) = some y2 := hf 2 _ rfl
      rw [cn] at e2
      have f2 : DataW.trod enc Tryz.prog W base sp held m 22 [v2] = some y2 := e2
      have e3 : DataW.trod enc Tryz.prog W base sp held m 23 (List.take (Tryz.prog.cellsOf 23) [v3]) = some y3 := hf 3 _ rfl
      rw [ck] at e3
      have f3 : DataW.trod enc Tryz.prog W base sp held m 23 [v3] = some y3 := e3
      obtain ⟨k, hk, _, hwf⟩ := DataW.trod_int Tryz.underlying3 f0
      obtain rfl : v0 = .int .i64 k := by simpa using hk
      have hx : -9223372036854775808 ≤ k ∧ k ≤ 9223372036854775807 := by simpa [Lit.wf, IntKind.min, IntKind.max, IntKind.signed, IntKind.bits] using hwf
      obtain ⟨nm, hnm, _, hns⟩ := DataW.trod_string Tryz.underlying9 f1
      obtain rfl : v1 = .string nm := by simpa using hnm
      obtain ⟨nms, hT, hTl, hTs⟩ := opened_texts f2
      rcases DataW.trod_slice Tryz.underlying23 f3 with ⟨hcs, _⟩ | ⟨a, len, cap, elems, rest, m2, rfl, hcs, _, hb, hlc, hcm, hel, heach, _, _⟩
      · obtain rfl : v3 = .slice none 0 0 := by simpa using hcs
        exact ⟨.mk k nm nms [], _, _, rfl, hx, hns, ⟨hT, hTl, hTs⟩, by simp, .inl ⟨rfl, _, _, rfl⟩⟩
      · obtain rfl : v3 = .slice (some a) len cap := by simpa using hcs
        rw [c4] at heach
        have each : ∀ i, i < len → ∃ q : Ty × List Value, TyAt W m2 q.2 q.1 ∧ ∀ c u, q.2[c]? = some u → W.cell? ((a.add (i * 4)).add c) = some u := fun i hi => by
          have hi2 := heach i hi
          rw [List.getElem?_eq_getElem (by omega)] at hi2
          obtain ⟨cs', h1, h2⟩ := Option.bind_eq_some_iff.1 hi2
          obtain ⟨t, ht⟩ := ih m2 (by omega) cs' _ h2
          obtain ⟨_, hlen, hcell⟩ := World.cells?_some h1
          refine ⟨(t, cs'), ht, fun c u hu => ?_⟩
          have hc : c < 4 := by
            have : c < cs'.length := (List.getElem?_eq_some_iff.1 hu).1
            omega
          rw [hcell c hc]
          exact hu
        haveI : Inhabited (Ty × List Value) := ⟨(.mk 0 ByteArray.empty [] [], [])⟩
        obtain ⟨q, hq⟩ := Go.Deep.choose_lt each
        refine ⟨.mk k nm nms ((List.range len).map fun i => (q i).1), _, _, rfl, hx, hns, ⟨hT, hTl, hTs⟩, by simp; omega, ?_⟩
        by_cases h0 : len = 0
        · subst h0
          exact .inl ⟨rfl, _, _, rfl⟩
        · obtain ⟨b, off, spot⟩ := a
          have hspot : spot = none := by
            obtain ⟨h1, h2⟩ := hq 0 (by omega)
            have hlen := h1.len
            have hc := h2 0 _ (List.getElem?_eq_getElem (by omega))
            simpa [Addr.add] using World.cell?_spot hc
          subst hspot
          refine .inr ⟨b, off, cap, by simp, fun j hj => ?_⟩
          have hj2 : j < len := by simpa using hj
          obtain ⟨h1, h2⟩ := hq j hj2
          refine ⟨(q j).2, ?_, fun c u hu => ?_⟩
          · simp only [List.getElem_map, List.getElem_range]
            exact h1.mono (by omega)
          · have := h2 c u hu
            rw [Addr.add_lit, Addr.add_lit] at this
            exact this

end Go.Proofs.YtbojmbeopnlmiaaGreatDoor
