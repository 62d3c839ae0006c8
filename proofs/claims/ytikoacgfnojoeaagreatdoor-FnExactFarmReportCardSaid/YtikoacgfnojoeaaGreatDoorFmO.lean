/-
  A farm that is handed in, opened: its lists of leases, packets, bools and results.
-/
import Derived.Test.YtikoacgfnojoeaaGreatDoorFmL
import Derived.Test.YtikoacgfnojoeaaGreatDoorFmR
import Derived.Test.YtikoacgfnojoeaaGreatDoorSrT
import Derived.Test.YtikoacgfnojoeaaGreatDoorItP
namespace Go.Proofs.YtikoacgfnojoeaaGreatDoor
open Go.ChangeShapes Go.WideShapes Go.ChangeAt Go.RowKit

set_option maxRecDepth 100000 in
/-- a list that is handed in, opened, where each of its elements is -/
theorem openedA {α : Type} [Inhabited α] {H : Type} {enc : TypeId × Value → H} {W : World} {base : Nat} {sp : Nat → Bool} {held : Bool} {T E : TypeId} (z : Nat) (hz : 0 < z) (f : α → List Value) (P : α → Prop) (hT : Tryz.prog.underlying T = some (.slice E)) (hcE : Tryz.prog.cellsOf E = z) (hl : ∀ e, (f e).length = z)
    (one : ∀ m cs x, DataW.trod enc Tryz.prog W base sp held m E cs = some x → ∃ e, cs = f e ∧ P e) (n : Nat) (v : Value) (x : DataW H × List MemPlace) (h : DataW.trod enc Tryz.prog W base sp held n T [v] = some x) : ∃ es : List α, RowA z f W v es ∧ es.length ≤ maxLen ∧ ∀ e ∈ es, P e := by
  rcases DataW.trod_slice hT h with ⟨hcs, _⟩ | ⟨a, len, cap, elems, rest, m2, rfl, hcs, _, hb, hlc, hcm, hel, heach, _, _⟩
  · obtain rfl : v = .slice none 0 0 := by simpa using hcs
    exact ⟨[], .inl ⟨rfl, _, _, rfl⟩, by simp, by simp⟩
  · obtain rfl : v = .slice (some a) len cap := by simpa using hcs
    rw [hcE] at heach
    have each : ∀ i, i < len → ∃ q : α, P q ∧ ∀ c u, (f q)[c]? = some u → W.cell? ((a.add (i * z)).add c) = some u := fun i hi => by
      have hi2 := heach i hi
      rw [List.getElem?_eq_getElem (by omega)] at hi2
      obtain ⟨cs', h1, h2⟩ := Option.bind_eq_some_iff.1 hi2
      obtain ⟨t, rfl, ht⟩ := one m2 cs' _ h2
      obtain ⟨_, hlen, hcell⟩ := World.cells?_some h1
      refine ⟨t, ht, fun c u hu => ?_⟩
      have hc : c < z := by
        have := (List.getElem?_eq_some_iff.1 hu).1
        rw [hl] at this
        exact this
      rw [hcell c hc]
      exact hu
    obtain ⟨q, hq⟩ := Go.Deep.choose_lt each
    refine ⟨(List.range len).map fun i => q i, ?_, by simp; omega, fun e he => ?_⟩
    · by_cases h0 : len = 0
      · subst h0
        exact .inl ⟨rfl, _, _, rfl⟩
      · obtain ⟨b, off, spot⟩ := a
        obtain ⟨u0, hu0⟩ : ∃ u, (f (q 0))[0]? = some u := ⟨_, List.getElem?_eq_getElem (by rw [hl]; exact hz)⟩
        have hc0 := (hq 0 (by omega)).2 0 _ hu0
        have hspot : spot = none := by simpa [Addr.add] using World.cell?_spot hc0
        subst hspot
        rw [Addr.add_lit, Addr.add_lit] at hc0
        refine .inr ⟨b, off, cap, by simp, World.block_lt_of_cell? W _ hc0, fun j hj c u hu => ?_⟩
        have hj2 : j < len := by simpa using hj
        simp only [List.getElem_map, List.getElem_range] at hu
        have := (hq j hj2).2 c u hu
        rw [Addr.add_lit, Addr.add_lit] at this
        exact this
    · obtain ⟨i, hi, rfl⟩ := List.mem_map.1 he
      exact (hq i (by simpa using hi)).1

theorem opened_int {H : Type} {enc : TypeId × Value → H} {W : World} {base : Nat} {sp : Nat → Bool} {held : Bool} {m : Nat} {v : Value} {x : DataW H × List MemPlace} (h : DataW.trod enc Tryz.prog W base sp held m 3 [v] = some x) : ∃ k : Int, v = .int .i64 k ∧ -9223372036854775808 ≤ k ∧ k ≤ 9223372036854775807 := by
  obtain ⟨k, hk, _, hwf⟩ := DataW.trod_int Tryz.underlying3 h
  obtain rfl : v = .int .i64 k := by simpa using hk
  exact ⟨k, rfl, by simpa [Lit.wf, IntKind.min, IntKind.max, IntKind.signed, IntKind.bits] using hwf⟩
theorem opened_str {H : Type} {enc : TypeId × Value → H} {W : World} {base : Nat} {sp : Nat → Bool} {held : Bool} {m : Nat} {v : Value} {x : DataW H × List MemPlace} (h : DataW.trod enc Tryz.prog W base sp held m 9 [v] = some x) : ∃ s : ByteArray, v = .string s ∧ s.size ≤ maxLen := by
  obtain ⟨s, hs, _, hz⟩ := DataW.trod_string Tryz.underlying9 h
  exact ⟨s, by simpa using hs, hz⟩
theorem cInt : Tryz.prog.cellsOf 3 = 1 := by kernel_rfl
theorem cStr : Tryz.prog.cellsOf 9 = 1 := by kernel_rfl

set_option maxRecDepth 100000 in
theorem opened_le {H : Type} {enc : TypeId × Value → H} {W : World} {base : Nat} {sp : Nat → Bool} {held : Bool} (n : Nat) (cs : List Value) (x : DataW H × List MemPlace) (h : DataW.trod enc Tryz.prog W base sp held n 85 cs = some x) : ∃ e : LeR, cs = LeF e ∧ LeS e ≤ maxLen := by
  have c3 : Tryz.prog.cellsOf 85 = 3 := by kernel_rfl
  obtain ⟨xs, m, rfl, rfl, hl, hxl, hf⟩ := DataW.trod_struct Tryz.underlying85 h
  rw [c3] at hl
  have hxl3 : xs.length = 3 := hxl
  match cs, hl, xs, hxl3 with
  | [v0, v1, v2], _, [y0, y1, y2], _ =>
    have e0 : DataW.trod enc Tryz.prog W base sp held m 9 (List.take (Tryz.prog.cellsOf 9) [v0, v1, v2]) = some y0 := hf 0 _ rfl
    rw [cStr] at e0
    have f0 : DataW.trod enc Tryz.prog W base sp held m 9 [v0] = some y0 := e0
    have e1 : DataW.trod enc Tryz.prog W base sp held m 3 (List.take (Tryz.prog.cellsOf 3) [v1, v2]) = some y1 := hf 1 _ rfl
    rw [cInt] at e1
    have f1 : DataW.trod enc Tryz.prog W base sp held m 3 [v1] = some y1 := e1
    have e2 : DataW.trod enc Tryz.prog W base sp held m 3 (List.take (Tryz.prog.cellsOf 3) [v2]) = some y2 := hf 2 _ rfl
    rw [cInt] at e2
    have f2 : DataW.trod enc Tryz.prog W base sp held m 3 [v2] = some y2 := e2
    obtain ⟨a, rfl, ha⟩ := opened_str f0
    obtain ⟨b, rfl, _⟩ := opened_int f1
    obtain ⟨c, rfl, _⟩ := opened_int f2
    exact ⟨(a, b, c), rfl, ha⟩

set_option maxRecDepth 100000 in
theorem opened_pa {H : Type} {enc : TypeId × Value → H} {W : World} {base : Nat} {sp : Nat → Bool} {held : Bool} (n : Nat) (cs : List Value) (x : DataW H × List MemPlace) (h : DataW.trod enc Tryz.prog W base sp held n 95 cs = some x) : ∃ e : PaR, cs = PaF e ∧ PaS e ≤ maxLen := by
  have c3 : Tryz.prog.cellsOf 95 = 3 := by kernel_rfl
  obtain ⟨xs, m, rfl, rfl, hl, hxl, hf⟩ := DataW.trod_struct Tryz.underlying95 h
  rw [c3] at hl
  have hxl3 : xs.length = 3 := hxl
  match cs, hl, xs, hxl3 with
  | [v0, v1, v2], _, [y0, y1, y2], _ =>
    have e0 : DataW.trod enc Tryz.prog W base sp held m 3 (List.take (Tryz.prog.cellsOf 3) [v0, v1, v2]) = some y0 := hf 0 _ rfl
    rw [cInt] at e0
    have f0 : DataW.trod enc Tryz.prog W base sp held m 3 [v0] = some y0 := e0
    have e1 : DataW.trod enc Tryz.prog W base sp held m 3 (List.take (Tryz.prog.cellsOf 3) [v1, v2]) = some y1 := hf 1 _ rfl
    rw [cInt] at e1
    have f1 : DataW.trod enc Tryz.prog W base sp held m 3 [v1] = some y1 := e1
    have e2 : DataW.trod enc Tryz.prog W base sp held m 9 (List.take (Tryz.prog.cellsOf 9) [v2]) = some y2 := hf 2 _ rfl
    rw [cStr] at e2
    have f2 : DataW.trod enc Tryz.prog W base sp held m 9 [v2] = some y2 := e2
    obtain ⟨a, rfl, _⟩ := opened_int f0
    obtain ⟨b, rfl, _⟩ := opened_int f1
    obtain ⟨c, rfl, hc⟩ := opened_str f2
    exact ⟨(a, b, c), rfl, hc⟩

theorem opened_bo {H : Type} {enc : TypeId × Value → H} {W : World} {base : Nat} {sp : Nat → Bool} {held : Bool} (n : Nat) (cs : List Value) (x : DataW H × List MemPlace) (h : DataW.trod enc Tryz.prog W base sp held n 4 cs = some x) : ∃ e : Bool, cs = BoF e ∧ True := by
  obtain ⟨b, hb, _⟩ := DataW.trod_bool Tryz.underlying4 h
  exact ⟨b, by simpa [BoF] using hb, trivial⟩

theorem opened_rs {H : Type} {enc : TypeId × Value → H} {W : World} {base : Nat} {sp : Nat → Bool} {held : Bool} (n : Nat) (cs : List Value) (x : DataW H × List MemPlace) (h : DataW.trod enc Tryz.prog W base sp held n 92 cs = some x) : ∃ e : ResV, cs = resF e ∧ e.few ∧ ∃ d, e.at W d := by
  obtain ⟨d, rn, vD, ds, nm, bad, vT, vX, ts, xs, rfl, h1, h2, h3, h4, h5, h6, h7, h8, h9⟩ := opened_res n cs x h
  exact ⟨⟨rn, vD, ds, nm, bad, vT, ts, vX, xs⟩, rfl, ⟨h1, h3, h4, h5, h8, h9⟩, d, h2, h6, h7⟩

/-- one depth for all results of a list -/
theorem res_deep {W : World} (es : List ResV) (h : ∀ e ∈ es, ∃ d, e.at W d) : ∃ d, ∀ e ∈ es, e.at W d := by
  induction es with
  | nil => exact ⟨0, fun e he => by simp at he⟩
  | cons x r ih =>
    obtain ⟨d1, h1⟩ := h x (List.mem_cons_self ..)
    obtain ⟨d2, h2⟩ := ih fun e he => h e (List.mem_cons_of_mem _ he)
    refine ⟨max d1 d2, fun e he => ?_⟩
    rcases List.mem_cons.1 he with rfl | he
    · exact ⟨h1.1, h1.2.1.deep (Nat.le_max_left _ _), h1.2.2.deep (Nat.le_max_left _ _)⟩
    · obtain ⟨a, b, c⟩ := h2 e he
      exact ⟨a, b.deep (Nat.le_max_right _ _), c.deep (Nat.le_max_right _ _)⟩

/-- a farm, its lists by their slices -/
structure FarmV where
  vS : Value
  set : List Src
  wait : Int
  vU : Value
  up : List Bool
  clock : Int
  epoch : Int
  vL : Value
  leases : List LeR
  vR : Value
  done : List ResV
  vN : Value
  net : List PaR
  room : Int
  vI : Value
  items : List Itm
def FarmV.cells (e : FarmV) : List Value := [e.vS, .int .i64 e.wait, e.vU, .int .i64 e.clock, .int .i64 e.epoch, e.vL, e.vR, e.vN, .int .i64 e.room, e.vI]
structure FarmV.at (w : World) (n : Nat) (e : FarmV) : Prop where
  set : SrcAt w e.vS e.set
  up : RowA 1 BoF w e.vU e.up
  leases : RowA 3 LeF w e.vL e.leases
  done : ResAt w n e.vR e.done
  net : RowA 3 PaF w e.vN e.net
  items : ItAt w e.vI e.items
theorem FarmV.at.below {w w' : World} {n : Nat} {e : FarmV} (h : e.at w n) (hb : Below w.heap.size w w') : e.at w' n := ⟨h.set.below hb, h.up.below hb, h.leases.below hb, h.done.below hb, h.net.below hb, h.items.below hb⟩
structure FarmV.few (e : FarmV) : Prop where
  set : e.set.length ≤ maxLen ∧ ∀ s ∈ e.set, s.1.size ≤ maxLen ∧ s.2.size ≤ maxLen
  up : e.up.length ≤ maxLen
  leases : e.leases.length ≤ maxLen ∧ ∀ s ∈ e.leases, LeS s ≤ maxLen
  done : e.done.length ≤ maxLen ∧ ∀ s ∈ e.done, s.few
  net : e.net.length ≤ maxLen ∧ ∀ s ∈ e.net, PaS s ≤ maxLen
  items : e.items.length ≤ maxLen ∧ ∀ s ∈ e.items, s.1.size ≤ maxLen ∧ s.2.1.size ≤ maxLen ∧ s.2.2.size ≤ maxLen

set_option maxHeartbeats 800000 in
set_option maxRecDepth 100000 in
theorem opened_farm {H : Type} {enc : TypeId × Value → H} {W : World} {base : Nat} {sp : Nat → Bool} {held : Bool} (n : Nat) (cs : List Value) (x : DataW H × List MemPlace) (h : DataW.trod enc Tryz.prog W base sp held n 31 cs = some x) : ∃ (d : Nat) (e : FarmV), cs = e.cells ∧ e.at W d ∧ e.few := by
  have c10 : Tryz.prog.cellsOf 31 = 10 := by kernel_rfl
  have cS : Tryz.prog.cellsOf 22 = 1 := by kernel_rfl
  have cU : Tryz.prog.cellsOf 23 = 1 := by kernel_rfl
  have cL : Tryz.prog.cellsOf 24 = 1 := by kernel_rfl
  have cR : Tryz.prog.cellsOf 25 = 1 := by kernel_rfl
  have cN : Tryz.prog.cellsOf 26 = 1 := by kernel_rfl
  have cI : Tryz.prog.cellsOf 29 = 2 := by kernel_rfl
  obtain ⟨xs, m, rfl, rfl, hl, hxl, hf⟩ := DataW.trod_struct Tryz.underlying31 h
  rw [c10] at hl
  have hxl9 : xs.length = 9 := hxl
  match cs, hl, xs, hxl9 with
  | [v0, v1, v2, v3, v4, v5, v6, v7, v8, v9], _, [y0, y1, y2, y3, y4, y5, y6, y7, y8], _ =>
    have e0 : DataW.trod enc Tryz.prog W base sp held m 22 (List.take (Tryz.prog.cellsOf 22) [v0, v1, v2, v3, v4, v5, v6, v7, v8, v9]) = some y0 := hf 0 _ rfl
    rw [cS] at e0
    have f0 : DataW.trod enc Tryz.prog W base sp held m 22 [v0] = some y0 := e0
    have e1 : DataW.trod enc Tryz.prog W base sp held m 3 (List.take (Tryz.prog.cellsOf 3) [v1, v2, v3, v4, v5, v6, v7, v8, v9]) = some y1 := hf 1 _ rfl
    rw [cInt] at e1
    have f1 : DataW.trod enc Tryz.prog W base sp held m 3 [v1] = some y1 := e1
    have e2 : DataW.trod enc Tryz.prog W base sp held m 23 (List.take (Tryz.prog.cellsOf 23) [v2, v3, v4, v5, v6, v7, v8, v9]) = some y2 := hf 2 _ rfl
    rw [cU] at e2
    have f2 : DataW.trod enc Tryz.prog W base sp held m 23 [v2] = some y2 := e2
    have e3 : DataW.trod enc Tryz.prog W base sp held m 3 (List.take (Tryz.prog.cellsOf 3) [v3, v4, v5, v6, v7, v8, v9]) = some y3 := hf 3 _ rfl
    rw [cInt] at e3
    have f3 : DataW.trod enc Tryz.prog W base sp held m 3 [v3] = some y3 := e3
    have e4 : DataW.trod enc Tryz.prog W base sp held m 3 (List.take (Tryz.prog.cellsOf 3) [v4, v5, v6, v7, v8, v9]) = some y4 := hf 4 _ rfl
    rw [cInt] at e4
    have f4 : DataW.trod enc Tryz.prog W base sp held m 3 [v4] = some y4 := e4
    have e5 : DataW.trod enc Tryz.prog W base sp held m 24 (List.take (Tryz.prog.cellsOf 24) [v5, v6, v7, v8, v9]) = some y5 := hf 5 _ rfl
    rw [cL] at e5
    have f5 : DataW.trod enc Tryz.prog W base sp held m 24 [v5] = some y5 := e5
    have e6 : DataW.trod enc Tryz.prog W base sp held m 25 (List.take (Tryz.prog.cellsOf 25) [v6, v7, v8, v9]) = some y6 := hf 6 _ rfl
    rw [cR] at e6
    have f6 : DataW.trod enc Tryz.prog W base sp held m 25 [v6] = some y6 := e6
    have e7 : DataW.trod enc Tryz.prog W base sp held m 26 (List.take (Tryz.prog.cellsOf 26) [v7, v8, v9]) = some y7 := hf 7 _ rfl
    rw [cN] at e7
    have f7 : DataW.trod enc Tryz.prog W base sp held m 26 [v7] = some y7 := e7
    have e8 : DataW.trod enc Tryz.prog W base sp held m 29 (List.take (Tryz.prog.cellsOf 29) [v8, v9]) = some y8 := hf 8 _ rfl
    rw [cI] at e8
    have f8 : DataW.trod enc Tryz.prog W base sp held m 29 [v8, v9] = some y8 := e8
    obtain ⟨set, s1, s2, s3⟩ := opened_srs m _ _ f0
    obtain ⟨wait, rfl, _⟩ := opened_int f1
    obtain ⟨up, u1, u2, _⟩ := openedA 1 (by decide) BoF (fun _ => True) Tryz.underlying23 (by kernel_rfl) (fun _ => rfl) opened_bo m _ _ f2
    obtain ⟨clock, rfl, _⟩ := opened_int f3
    obtain ⟨epoch, rfl, _⟩ := opened_int f4
    obtain ⟨leases, l1, l2, l3⟩ := openedA 3 (by decide) LeF (fun e => LeS e ≤ maxLen) Tryz.underlying24 (by kernel_rfl) (fun _ => rfl) opened_le m _ _ f5
    have hinh : Inhabited ResV := ⟨⟨⟨#[]⟩, .slice none 0 0, [], ⟨#[]⟩, false, .slice none 0 0, [], .slice none 0 0, []⟩⟩
    obtain ⟨done, r1, r2, r3⟩ := openedA 6 (by decide) resF (fun e => e.few ∧ ∃ d, e.at W d) Tryz.underlying25 (by kernel_rfl) (fun _ => rfl) opened_rs m _ _ f6
    obtain ⟨net, n1, n2, n3⟩ := openedA 3 (by decide) PaF (fun e => PaS e ≤ maxLen) Tryz.underlying26 (by kernel_rfl) (fun _ => rfl) opened_pa m _ _ f7
    obtain ⟨room, vI, items, hcv, _, i1, i2, i3⟩ := opened_store m _ _ f8
    obtain ⟨rfl, rfl⟩ : v8 = .int .i64 room ∧ v9 = vI := by simpa using hcv
    obtain ⟨d, hd⟩ := res_deep done fun e he => (r3 e he).2
    exact ⟨d, ⟨v0, set, wait, v2, up, clock, epoch, v5, leases, v6, done, v7, net, room, v9, items⟩, rfl, ⟨s1, u1, l1, ⟨r1, hd⟩, n1, i1⟩, ⟨⟨s2, s3⟩, u2, ⟨l2, l3⟩, ⟨r2, fun e he => (r3 e he).1⟩, ⟨n2, n3⟩, ⟨i2, i3⟩⟩⟩

end Go.Proofs.YtikoacgfnojoeaaGreatDoor
