/-
 The walks of the laws' own helpers eqNamed and eqNamedS, at two values that hold the same.
-/
import Derived.Test.YtbojmbeopnlmiaaGreatDoorTab4
import Derived.Deep.Strs
import Derived.Lib.SlicesCompact
namespace Go.Proofs.YtbojmbeopnlmiaaGreatDoor
open Go.RowKit
set_option maxHeartbeats 800000 in
set_option maxRecDepth 100000 in
theorem lawsEqNm (n : Nat) (nm : ByteArray) (x0 x1 x2 x3 y0 y1 y2 y3 : Value) (t : Ty) (w : World) (hA : TyAt w n [x0, x1, x2, x3] t) (hB : TyAt w n [y0, y1, y2, y3] t) (hbk : Ty.bulk n t ≤ 1048576) :
  Calls Tryz.prog 56 #[.agg #[.string nm, x0, x1, x2, x3], .agg #[.string nm, y0, y1, y2, y3]] w fun e w' => e = .returned (.bool true) ∧ Below w.heap.size w w' := by
 have hB2 : Below w.heap.size w ((w.alloc (.cells #[.string nm, x0, x1, x2, x3] 75)).alloc (.cells #[.string nm, y0, y1, y2, y3] 75)) := ((Below.refl _ _).alloc (Nat.le_refl _) _).alloc (by simp) _
 have HK : Hid (Calls Tryz.prog 10 #[.agg #[x0, x1, x2, x3], .agg #[y0, y1, y2, y3]] ((w.alloc (.cells #[.string nm, x0, x1, x2, x3] 75)).alloc (.cells #[.string nm, y0, y1, y2, y3] 75)) fun e w' => e = .returned (.bool true) ∧ Below ((w.alloc (.cells #[.string nm, x0, x1, x2, x3] 75)).alloc (.cells #[.string nm, y0, y1, y2, y3] 75)).heap.size ((w.alloc (.cells #[.string nm, x0, x1, x2, x3] 75)).alloc (.cells #[.string nm, y0, y1, y2, y3] 75)) w') := lawsEqTy n _ _ t _ (hA.below hB2) (hB.below hB2) hbk
 clear hA hB hbk
 go_enter Tryz.func56, Tryz.ntmps56
 go_wp2_with fail
 refine HK.out.mono ?_
 rintro e w3 ⟨rfl, hb3⟩
 go_wp2_with fail
 go_ret
 exact ⟨rfl, hB2.trans (hb3.mono (by simp; omega))⟩
set_option maxHeartbeats 800000 in
set_option maxRecDepth 100000 in
theorem lawsEqEnv (n : Nat) (va vb : Value) (es : List (ByteArray × Ty)) (w : World) (hA : EnvAt w n va es) (hB : EnvAt w n vb es) (hkl : envBulk n es ≤ 1048576) :
  Calls Tryz.prog 35 #[va, vb] w fun e w' => e = .returned (.bool true) ∧ Below w.heap.size w w' := by
 obtain ⟨a, capa, rfl, ha⟩ := envOpen hA
 obtain ⟨b, capb, rfl, hb⟩ := envOpen hB
 have HEA : Hid (type_of% ha) := ha
 have HEB : Hid (type_of% hb) := hb
 have hlen : es.length ≤ 1048576 := by unfold envBulk at hkl; omega
 clear hA hB ha hb
 go_enter Tryz.func35, Tryz.ntmps35
 go_wp2_with fail
 go_loopw [5] (fun i wr => ∃ k : Nat, k ≤ es.length ∧ i = .int .i64 k ∧ Below w.heap.size w wr) (fun i _ => es.length - (intOf i).toNat)
 case atStart => exact ⟨0, Nat.zero_le _, rfl, Below.refl _ _⟩
 case round =>
  obtain ⟨k, hk, rfl, hbe⟩ := hrel
  by_cases hlt : k < es.length
  ·obtain ⟨ba, oa, x0, x1, x2, x3, rfl, hba, _, hta, a0, a1, a2, a3, a4⟩ := HEA.out k hlt
   obtain ⟨bb, ob, y0, y1, y2, y3, rfl, hbb, _, htb, b0, b1, b2, b3, b4⟩ := HEB.out k hlt
   have A0 := (hbe.cell (p := ⟨ba, oa + k * 5, none⟩) hba).trans a0
   have A1 := (hbe.cell (p := ⟨ba, oa + k * 5 + 1, none⟩) hba).trans a1
   have A2 := (hbe.cell (p := ⟨ba, oa + k * 5 + 2, none⟩) hba).trans a2
   have A3 := (hbe.cell (p := ⟨ba, oa + k * 5 + 3, none⟩) hba).trans a3
   have A4 := (hbe.cell (p := ⟨ba, oa + k * 5 + 4, none⟩) hba).trans a4
   have B0 := (hbe.cell (p := ⟨bb, ob + k * 5, none⟩) hbb).trans b0
   have B1 := (hbe.cell (p := ⟨bb, ob + k * 5 + 1, none⟩) hbb).trans b1
   have B2 := (hbe.cell (p := ⟨bb, ob + k * 5 + 2, none⟩) hbb).trans b2
   have B3 := (hbe.cell (p := ⟨bb, ob + k * 5 + 3, none⟩) hbb).trans b3
   have B4 := (hbe.cell (p := ⟨bb, ob + k * 5 + 4, none⟩) hbb).trans b4
   have hbk := env_bulk n es k hlt
   have HC : Hid (∀ wx : World, Below wr.heap.size wr wx → Calls Tryz.prog 56 #[.agg #[.string es[k].1, x0, x1, x2, x3], .agg #[.string es[k].1, y0, y1, y2, y3]] wx fun e w' => e = .returned (.bool true) ∧ Below wx.heap.size wx w') := fun wx hx => lawsEqNm n _ x0 x1 x2 x3 y0 y1 y2 y3 _ wx ((hta.below hbe).below hx) ((htb.below hbe).below hx) (by omega)
   clear a0 a1 a2 a3 a4 b0 b1 b2 b3 b4 HEA HEB hta htb hbk
   generalize es[k].1 = nm at *
   have hk0 : (0 : Int) ≤ k := by omega
   have hk1 : (k : Int) < es.length := by omega
   go_wp2_with fail
   go_region_with (go_at_call 56; refine (HC.out _ ((Below.refl _ _).drew)).mono ?_; rintro e w2 ⟨rfl, hb2⟩)
   all_goals
    go_wp2_with fail
    go_roundw
    case rel => exact ⟨k + 1, by omega, by go_num, hbe.trans ((((Below.refl _ _).drew).trans hb2).mono hbe.size)⟩
    case measure => simp [intOf]; omega
  ·clear HEA HEB
   go_wp2_with fail
   go_ret
   exact ⟨rfl, hbe⟩
end Go.Proofs.YtbojmbeopnlmiaaGreatDoor
namespace Go.Proofs.YtbojmbeopnlmiaaGreatDoor
open Go.ChangeShapes Go.WideShapes Go.ChangeAt Go.RowKit
theorem RowAt.map {w : World} {R R' : List Value → Ty → Prop} {v : Value} {ts : List Ty} (h : RowAt w R v ts) (hR : ∀ cs t, t ∈ ts → R cs t → R' cs t) : RowAt w R' v ts := h.below (Below.refl _ _) hR
theorem TyAt.mono {w : World} {n m : Nat} {cs : List Value} {t : Ty} (h : TyAt w n cs t) (hnm : n ≤ m) : TyAt w m cs t := by
 induction n generalizing m cs t with
 | zero => exact h.elim
 | succ n ih =>
  obtain ⟨k, rfl⟩ : ∃ k, m = k + 1 := ⟨m - 1, by omega⟩
  obtain ⟨vn, vk, h1, h2, h3, h4, h5, h6⟩ := h
  exact ⟨vn, vk, h1, h2, h3, h4, h5, h6.map fun cs t _ h => ih h (by omega)⟩
theorem opened_texts {H : Type} {enc : TypeId × Value → H} {W : World} {base : Nat} {sp : Nat → Bool} {held : Bool} {fuel : Nat} {v : Value} {x : DataW H × List MemPlace} (h : DataW.trod enc Tryz.prog W base sp held fuel 22 [v] = some x) :
  ∃ ts, Texts W v ts ∧ ts.length ≤ maxLen ∧ ∀ t ∈ ts, t.size ≤ maxLen := by
 rcases open_strings Tryz.underlying22 Tryz.underlying9 (by kernel_rfl) h with ⟨hcs, _⟩ | ⟨a, l, c, ss, hcs, _, hlc, hm, hz, _, hcell, hws⟩
 ·obtain rfl : v = .slice none 0 0 := by simpa using hcs
  exact ⟨[], .inl ⟨rfl, _, _, rfl⟩, by simp, by simp⟩
 ·obtain rfl : v = .slice (some a) l c := by simpa using hcs
  have hzl : l ≤ ss.length := by rw [hz]; split <;> omega
  have hlen : (ss.take l).length = l := by simp; omega
  refine ⟨ss.take l, ?_, by omega, fun t ht => hws t (List.mem_of_mem_take ht)⟩
  by_cases h00 : l = 0
  ·subst h00
   exact .inl ⟨by simp, _, _, rfl⟩
  ·obtain ⟨b, off, spot⟩ := a
   have hc := hcell 0 (by omega)
   have hspot : spot = none := by simpa [Addr.add] using World.cell?_spot hc
   subst hspot
   refine .inr ⟨b, off, c, by rw [hlen], fun j hj => ?_⟩
   have hjl : j < ss.length := by omega
   have := hcell j hjl
   rw [Addr.add_lit] at this
   rw [this]
   simp [hjl]
set_option maxRecDepth 100000 in
theorem opened_ty {H : Type} {enc : TypeId × Value → H} {W : World} {base : Nat} {sp : Nat → Bool} {held : Bool} : ∀ (n : Nat) (cs : List Value) (x : DataW H × List MemPlace),
  DataW.trod enc Tryz.prog W base sp held n 25 cs = some x → ∃ t : Ty, TyAt W n cs t := by
 intro n
 induction n using Nat.strongRecOn with
 | ind n ih =>
  intro cs x h
  have c4 : Tryz.prog.cellsOf 25 = 4 := by kernel_rfl
  have ci : Tryz.prog.cellsOf 3 = 1 := by kernel_rfl
  have cst : Tryz.prog.cellsOf 9 = 1 := by kernel_rfl
  have cn : Tryz.prog.cellsOf 22 = 1 := by kernel_rfl
  have ck : Tryz.prog.cellsOf 23 = 1 := by kernel_rfl
  obtain ⟨xs, m, rfl, rfl, hl, hxl, hf⟩ := DataW.trod_struct Tryz.underlying25 h
  rw [c4] at hl
  have hxl4 : xs.length = 4 := hxl
  match cs, hl, xs, hxl4 with
  | [v0, v1, v2, v3], _, [y0, y1, y2, y3], _ =>
   have e0 : DataW.trod enc Tryz.prog W base sp held m 3 (List.take (Tryz.prog.cellsOf 3) [v0, v1, v2, v3]) = some y0 := hf 0 _ rfl
   rw [ci] at e0
   have f0 : DataW.trod enc Tryz.prog W base sp held m 3 [v0] = some y0 := e0
   have e1 : DataW.trod enc Tryz.prog W base sp held m 9 (List.take (Tryz.prog.cellsOf 9) [v1, v2, v3]) = some y1 := hf 1 _ rfl
   rw [cst] at e1
   have f1 : DataW.trod enc Tryz.prog W base sp held m 9 [v1] = some y1 := e1
   have e2 : DataW.trod enc Tryz.prog W base sp held m 22 (List.take (Tryz.prog.cellsOf 22) [v2, v3]) = some y2 := hf 2 _ rfl
   rw [cn] at e2
   have f2 : DataW.trod enc Tryz.prog W base sp held m 22 [v2] = some y2 := e2
   have e3 : DataW.trod enc Tryz.prog W base sp held m 23 (List.take (Tryz.prog.cellsOf 23) [v3]) = some y3 := hf 3 _ rfl
   rw [ck] at e3
   have f3 : DataW.trod enc Tryz.prog W base sp held m 23 [v3] = some y3 := e3
   obtain ⟨k, hk, _, hwf⟩ := DataW.trod_int Tryz.underlying3 f0
   obtain rfl : v0 = .int .i64 k := by simpa using hk
   have hx : -9223372036854775808 ≤ k ∧ k ≤ 9223372036854775807 := by simpa [Lit.wf, IntKind.min, IntKind.max, IntKind.signed, IntKind.bits] using hwf
   obtain ⟨nm, hnm, _, hns⟩ := DataW.trod_string Tryz.underlying9 f1
   obtain rfl : v1 = .string nm := by simpa using hnm
   obtain ⟨nms, hT, hTl, hTs⟩ := opened_texts f2
   rcases DataW.trod_slice Tryz.underlying23 f3 with ⟨hcs, _⟩ | ⟨a, len, cap, elems, rest, m2, rfl, hcs, _, hb, hlc, hcm, hel, heach, _, _⟩
   ·obtain rfl : v3 = .slice none 0 0 := by simpa using hcs
    exact ⟨.mk k nm nms [], _, _, rfl, hx, hns, ⟨hT, hTl, hTs⟩, by simp, .inl ⟨rfl, _, _, rfl⟩⟩
   ·obtain rfl : v3 = .slice (some a) len cap := by simpa using hcs
    rw [c4] at heach
    have each : ∀ i, i < len → ∃ q : Ty × List Value, TyAt W m2 q.2 q.1 ∧ ∀ c u, q.2[c]? = some u → W.cell? ((a.add (i * 4)).add c) = some u := fun i hi => by
     have hi2 := heach i hi
     rw [List.getElem?_eq_getElem (by omega)] at hi2
     obtain ⟨cs', h1, h2⟩ := Option.bind_eq_some_iff.1 hi2
     obtain ⟨t, ht⟩ := ih m2 (by omega) cs' _ h2
     obtain ⟨_, hlen, hcell⟩ := World.cells?_some h1
     refine ⟨(t, cs'), ht, fun c u hu => ?_⟩
     have hc : c < 4 := by
      have : c < cs'.length := (List.getElem?_eq_some_iff.1 hu).1
      omega
     rw [hcell c hc]
     exact hu
    haveI : Inhabited (Ty × List Value) := ⟨(.mk 0 ByteArray.empty [] [], [])⟩
    obtain ⟨q, hq⟩ := Go.Deep.choose_lt each
    refine ⟨.mk k nm nms ((List.range len).map fun i => (q i).1), _, _, rfl, hx, hns, ⟨hT, hTl, hTs⟩, by simp; omega, ?_⟩
    by_cases h0 : len = 0
    ·subst h0
     exact .inl ⟨rfl, _, _, rfl⟩
    ·obtain ⟨b, off, spot⟩ := a
     have hspot : spot = none := by
      obtain ⟨h1, h2⟩ := hq 0 (by omega)
      have hlen := h1.len
      have hc := h2 0 _ (List.getElem?_eq_getElem (by omega))
      simpa [Addr.add] using World.cell?_spot hc
     subst hspot
     refine .inr ⟨b, off, cap, by simp, fun j hj => ?_⟩
     have hj2 : j < len := by simpa using hj
     obtain ⟨h1, h2⟩ := hq j hj2
     refine ⟨(q j).2, ?_, fun c u hu => ?_⟩
     ·simp only [List.getElem_map, List.getElem_range]
      exact h1.mono (by omega)
     ·have := h2 c u hu
      rw [Addr.add_lit, Addr.add_lit] at this
      exact this
set_option maxRecDepth 100000 in
theorem opened_nm {H : Type} {enc : TypeId × Value → H} {W : World} {base : Nat} {sp : Nat → Bool} {held : Bool} (n : Nat) (cs : List Value) (x : DataW H × List MemPlace) (h : DataW.trod enc Tryz.prog W base sp held n 71 cs = some x) : ∃ e : ByteArray × Ty, NmAt W n cs e := by
 have c5 : Tryz.prog.cellsOf 71 = 5 := by kernel_rfl
 have c4 : Tryz.prog.cellsOf 25 = 4 := by kernel_rfl
 have cst : Tryz.prog.cellsOf 9 = 1 := by kernel_rfl
 obtain ⟨xs, m, rfl, rfl, hl, hxl, hf⟩ := DataW.trod_struct Tryz.underlying71 h
 rw [c5] at hl
 have hxl2 : xs.length = 2 := hxl
 match cs, hl, xs, hxl2 with
 | [v0, v1, v2, v3, v4], _, [y0, y1], _ =>
  have e0 : DataW.trod enc Tryz.prog W base sp held m 9 (List.take (Tryz.prog.cellsOf 9) [v0, v1, v2, v3, v4]) = some y0 := hf 0 _ rfl
  rw [cst] at e0
  have f0 : DataW.trod enc Tryz.prog W base sp held m 9 [v0] = some y0 := e0
  have e1 : DataW.trod enc Tryz.prog W base sp held m 25 (List.take (Tryz.prog.cellsOf 25) [v1, v2, v3, v4]) = some y1 := hf 1 _ rfl
  rw [c4] at e1
  have f1 : DataW.trod enc Tryz.prog W base sp held m 25 [v1, v2, v3, v4] = some y1 := e1
  obtain ⟨nm, hnm, _, hns⟩ := DataW.trod_string Tryz.underlying9 f0
  obtain rfl : v0 = .string nm := by simpa using hnm
  obtain ⟨t, ht⟩ := opened_ty m _ _ f1
  exact ⟨(nm, t), [v1, v2, v3, v4], rfl, hns, ht.mono (by omega)⟩
set_option maxRecDepth 100000 in
theorem opened_env {H : Type} {enc : TypeId × Value → H} {W : World} {base : Nat} {sp : Nat → Bool} {held : Bool} (n : Nat) (v : Value) (x : DataW H × List MemPlace) (h : DataW.trod enc Tryz.prog W base sp held n 34 [v] = some x) : ∃ (m : Nat) (es : List (ByteArray × Ty)), EnvAt W m v es ∧ es.length ≤ maxLen := by
 have c5 : Tryz.prog.cellsOf 71 = 5 := by kernel_rfl
 rcases DataW.trod_slice Tryz.underlying34 h with ⟨hcs, _⟩ | ⟨a, len, cap, elems, rest, m2, rfl, hcs, _, hb, hlc, hcm, hel, heach, _, _⟩
 ·obtain rfl : v = .slice none 0 0 := by simpa using hcs
  exact ⟨0, [], .inl ⟨rfl, _, _, rfl⟩, by simp⟩
 ·obtain rfl : v = .slice (some a) len cap := by simpa using hcs
  rw [c5] at heach
  have each : ∀ i, i < len → ∃ q : (ByteArray × Ty) × List Value, NmAt W m2 q.2 q.1 ∧ ∀ c u, q.2[c]? = some u → W.cell? ((a.add (i * 5)).add c) = some u := fun i hi => by
   have hi2 := heach i hi
   rw [List.getElem?_eq_getElem (by omega)] at hi2
   obtain ⟨cs', h1, h2⟩ := Option.bind_eq_some_iff.1 hi2
   obtain ⟨t, ht⟩ := opened_nm m2 cs' _ h2
   obtain ⟨_, hlen, hcell⟩ := World.cells?_some h1
   refine ⟨(t, cs'), ht, fun c u hu => ?_⟩
   have hc : c < 5 := by
    have : c < cs'.length := (List.getElem?_eq_some_iff.1 hu).1
    omega
   rw [hcell c hc]
   exact hu
  haveI : Inhabited ((ByteArray × Ty) × List Value) := ⟨((ByteArray.empty, .mk 0 ByteArray.empty [] []), [])⟩
  obtain ⟨q, hq⟩ := Go.Deep.choose_lt each
  refine ⟨m2, (List.range len).map fun i => (q i).1, ?_, by simp; omega⟩
  by_cases h0 : len = 0
  ·subst h0
   exact .inl ⟨rfl, _, _, rfl⟩
  ·obtain ⟨b, off, spot⟩ := a
   have hspot : spot = none := by
    obtain ⟨h1, h2⟩ := hq 0 (by omega)
    have hlen := h1.len
    have hc := h2 0 _ (List.getElem?_eq_getElem (by omega))
    simpa [Addr.add] using World.cell?_spot hc
   subst hspot
   refine .inr ⟨b, off, cap, by simp, fun j hj => ?_⟩
   have hj2 : j < len := by simpa using hj
   obtain ⟨h1, h2⟩ := hq j hj2
   refine ⟨(q j).2, ?_, fun c u hu => ?_⟩
   ·simp only [List.getElem_map, List.getElem_range]
    exact h1
   ·have := h2 c u hu
    rw [Addr.add_lit, Addr.add_lit] at this
    exact this
end Go.Proofs.YtbojmbeopnlmiaaGreatDoor
namespace Go.Proofs.YtbojmbeopnlmiaaGreatDoor
open Go.RowKit
def bl (a b : ByteArray) : Prop := a.data.toList < b.data.toList
theorem bl_trans {a b c : ByteArray} (h : bl a b) (k : bl b c) : bl a c := List.lt_trans h k
theorem bl_irrefl (a : ByteArray) : ¬ bl a a := List.lt_irrefl _
theorem ba_inj {a b : ByteArray} (h : a.data.toList = b.data.toList) : a = b := by
 cases a; cases b; congr; exact Array.toList_inj.1 h
theorem bl_tri {a b : ByteArray} (h : ¬ bl a b) (k : ¬ bl b a) : a = b := ba_inj (List.le_antisymm k h)
def Asc (l : List ByteArray) : Prop := l.Pairwise bl
theorem Asc.unique {l r : List ByteArray} (hl : Asc l) (hr : Asc r) (h : ∀ x, x ∈ l ↔ x ∈ r) : l = r := by
 induction l generalizing r with
 | nil =>
  cases r with
  | nil => rfl
  | cons b s => exact absurd ((h b).2 (List.mem_cons_self ..)) (by simp)
 | cons a l ih =>
  cases r with
  | nil => exact absurd ((h a).1 (List.mem_cons_self ..)) (by simp)
  | cons b s =>
   obtain ⟨ha, hl2⟩ := List.pairwise_cons.1 hl
   obtain ⟨hb, hr2⟩ := List.pairwise_cons.1 hr
   have e : a = b := by
    apply Classical.byContradiction
    intro ne
    have h1 : bl b a := by
     rcases List.mem_cons.1 ((h a).1 (List.mem_cons_self ..)) with e | m
     ·exact absurd e ne
     ·exact hb a m
    have h2 : bl a b := by
     rcases List.mem_cons.1 ((h b).2 (List.mem_cons_self ..)) with e | m
     ·exact absurd e.symm ne
     ·exact ha b m
    exact bl_irrefl _ (bl_trans h1 h2)
   subst e
   refine congrArg (a :: ·) (ih hl2 hr2 fun x => ?_)
   constructor
   ·intro hx
    rcases List.mem_cons.1 ((h x).1 (List.mem_cons_of_mem _ hx)) with e | m
    ·subst e; exact absurd (ha _ hx) (bl_irrefl _)
    ·exact m
   ·intro hx
    rcases List.mem_cons.1 ((h x).2 (List.mem_cons_of_mem _ hx)) with e | m
    ·subst e; exact absurd (hb _ hx) (bl_irrefl _)
    ·exact m
theorem Asc.put {l : List ByteArray} {s : ByteArray} {k : Nat} (hl : Asc l) (h1 : ∀ j (hj : j < l.length), j < k → bl l[j] s) (h2 : ∀ hj : k < l.length, ¬ bl l[k] s ∧ l[k] ≠ s) : Asc (l.take k ++ ([s] ++ l.drop k)) := by
 have hd := hl
 unfold Asc at hd
 rw [← List.take_append_drop k l, List.pairwise_append] at hd
 obtain ⟨d1, d2, d3⟩ := hd
 have hs : ∀ x ∈ l.drop k, bl s x := by
  cases hc : l.drop k with
  | nil => intro x hx; simp at hx
  | cons y r =>
   have hk : k < l.length := by
    apply Classical.byContradiction
    intro n
    rw [List.drop_of_length_le (by omega)] at hc
    simp at hc
   have hy : y = l[k] := by
    rw [List.drop_eq_getElem_cons hk] at hc
    injection hc with e _
    exact e.symm
   have hsy : bl s y := by
    apply Classical.byContradiction
    intro n
    have := h2 hk
    rw [← hy] at this
    exact this.2 (bl_tri this.1 n)
   rw [hc] at d2
   intro x hx
   rcases List.mem_cons.1 hx with e | m
   ·rw [e]; exact hsy
   ·exact bl_trans hsy ((List.pairwise_cons.1 d2).1 x m)
 have ht : ∀ x ∈ l.take k, bl x s := fun x hx => by
  obtain ⟨j, hj, rfl⟩ := List.getElem_of_mem hx
  rw [List.getElem_take]
  rw [List.length_take] at hj
  exact h1 j (by omega) (by omega)
 unfold Asc
 rw [List.singleton_append, List.pairwise_append, List.pairwise_cons]
 refine ⟨d1, ⟨hs, d2⟩, fun x hx y hy => ?_⟩
 rcases List.mem_cons.1 hy with e | m
 ·rw [e]; exact ht x hx
 ·exact d3 x hx y m
theorem mem_put {l : List ByteArray} {s : ByteArray} (k : Nat) (x : ByteArray) : x ∈ l.take k ++ ([s] ++ l.drop k) ↔ x = s ∨ x ∈ l := by
 conv => rhs; rw [← List.take_append_drop k l]
 simp only [List.mem_append, List.mem_singleton]
 constructor
 ·rintro (h | h | h)
  ·exact .inr (.inl h)
  ·exact .inl h
  ·exact .inr (.inr h)
 ·rintro (h | h | h)
  ·exact .inr (.inl h)
  ·exact .inl h
  ·exact .inr (.inr h)
theorem compactUpTo_sorted (d : Array (List UInt8)) (hs : ∀ i j, i ≤ j → j < d.size → d[i]! ≤ d[j]!) (m : Nat) (hm : m ≤ d.size) : (Lib.compactUpTo d m).Pairwise (· < ·) ∧ ∀ x, x ∈ Lib.compactUpTo d m ↔ ∃ j, j < m ∧ x = d[j]! := by
 induction m with
 | zero => exact ⟨by simp [Lib.compactUpTo], fun x => by simp [Lib.compactUpTo]⟩
 | succ m ih =>
  obtain ⟨ih1, ih2⟩ := ih (by omega)
  rw [Lib.compactUpTo_succ]
  by_cases hk : Lib.keeps d m = true
  ·rw [if_pos hk]
   refine ⟨?_, fun x => ?_⟩
   ·rw [List.pairwise_append]
    refine ⟨ih1, List.pairwise_singleton _ _, fun x hx y hy => ?_⟩
    obtain ⟨j, hj, rfl⟩ := (ih2 x).1 hx
    obtain rfl := List.mem_singleton.1 hy
    have h1 := hs j (m - 1) (by omega) (by omega)
    have h2 := hs (m - 1) m (by omega) (by omega)
    have h3 : d[m]! ≠ d[m - 1]! := by
     simp only [Lib.keeps] at hk
     intro e
     simp [e] at hk
     omega
    apply Classical.byContradiction
    intro n
    have n : d[m]! ≤ d[j]! := n
    exact h3 (List.le_antisymm (List.le_trans n h1) h2)
   ·rw [List.mem_append, List.mem_singleton, ih2 x]
    constructor
    ·rintro (⟨j, hj, e⟩ | e)
     ·exact ⟨j, by omega, e⟩
     ·exact ⟨m, by omega, e⟩
    ·rintro ⟨j, hj, e⟩
     by_cases c : j = m
     ·subst c; exact .inr e
     ·exact .inl ⟨j, by omega, e⟩
  ·rw [if_neg hk, List.append_nil]
   refine ⟨ih1, fun x => ?_⟩
   rw [ih2 x]
   have hm0 : 0 < m := by
    rcases Nat.eq_zero_or_pos m with e | e
    ·subst e; exact absurd (Lib.keeps_lt_one d 0 (by omega)) hk
    ·exact e
   have he : d[m]! = d[m - 1]! := by
    apply Classical.byContradiction
    intro n
    exact hk (Lib.keeps_pos n)
   constructor
   ·rintro ⟨j, hj, e⟩; exact ⟨j, by omega, e⟩
   ·rintro ⟨j, hj, e⟩
    by_cases c : j = m
    ·subst c; exact ⟨j - 1, by omega, e.trans he⟩
    ·exact ⟨j, by omega, e⟩
theorem compact_sorted (ss : List (List UInt8)) : (Lib.compact (ss.mergeSort fun x y => decide (x ≤ y))).Pairwise (· < ·) ∧ ∀ x, x ∈ Lib.compact (ss.mergeSort fun x y => decide (x ≤ y)) ↔ x ∈ ss := by
 have hp : (ss.mergeSort fun x y => decide (x ≤ y)).Pairwise (fun a b => decide (a ≤ b) = true) := List.pairwise_mergeSort (fun a b c h k => by
  simp only [decide_eq_true_eq] at h k ⊢
  exact List.le_trans h k) (fun a b => by
  simp only [Bool.or_eq_true, decide_eq_true_eq]
  exact List.le_total a b) ss
 have hm : ∀ x, x ∈ (ss.mergeSort fun x y => decide (x ≤ y)) ↔ x ∈ ss := fun x => (List.mergeSort_perm ss _).mem_iff
 generalize (ss.mergeSort fun x y => decide (x ≤ y)) = q at *
 have hq : ∀ j, j < q.length → q.toArray[j]! = q[j]! := fun j hj => by simp
 have hs : ∀ i j, i ≤ j → j < q.toArray.size → q.toArray[i]! ≤ q.toArray[j]! := fun i j hij hj => by
  have hj' : j < q.length := by simpa using hj
  by_cases c : i = j
  ·subst c; exact List.le_refl _
  ·have := List.pairwise_iff_getElem.1 hp i j (by omega) hj' (by omega)
   simp only [decide_eq_true_eq] at this
   simpa [hj', show i < q.length by omega] using this
 obtain ⟨h1, h2⟩ := compactUpTo_sorted q.toArray hs q.length (by simp)
 refine ⟨h1, fun x => ?_⟩
 unfold Lib.compact
 rw [h2 x, ← hm x, List.mem_iff_getElem]
 constructor
 ·rintro ⟨j, hj, e⟩; exact ⟨j, hj, by rw [e]; simp [hj]⟩
 ·rintro ⟨j, hj, e⟩; exact ⟨j, hj, by rw [← e]; simp [hj]⟩
def namesIn (n : Nat) (t : Ty) (x : ByteArray) : Prop := ∃ u ∈ Ty.nodes n t, u.kind = 4 ∧ u.name = x
end Go.Proofs.YtbojmbeopnlmiaaGreatDoor
namespace Go.Proofs.YtbojmbeopnlmiaaGreatDoor
def First (es : List (ByteArray × Ty)) (x : ByteArray) (j : Nat) : Prop := ∃ h : j < es.length, es[j].1 = x ∧ ∀ i (hi : i < j), (es[i]'(by omega)).1 ≠ x
theorem First.one {es : List (ByteArray × Ty)} {x : ByteArray} {i j : Nat} (h : First es x i) (k : First es x j) : i = j := by
 obtain ⟨h1, h2, h3⟩ := h
 obtain ⟨k1, k2, k3⟩ := k
 rcases Nat.lt_trichotomy i j with c | c | c
 ·exact absurd h2 (k3 i c)
 ·exact c
 ·exact absurd k2 (h3 j c)
def Nx (n : Nat) (es : List (ByteArray × Ty)) (x y : ByteArray) : Prop := ∃ j, ∃ h : First es x j, namesIn n (es[j]'h.1).2 y
def Lv (n : Nat) (es : List (ByteArray × Ty)) (t : Ty) : Nat → ByteArray → Prop
 | 0, x => namesIn n t x
 | i + 1, x => Lv n es t i x ∨ ∃ y, Lv n es t i y ∧ Nx n es y x
def Rch (n : Nat) (es : List (ByteArray × Ty)) (t : Ty) (x : ByteArray) : Prop := ∃ i, Lv n es t i x
theorem Rch.base {n : Nat} {es : List (ByteArray × Ty)} {t : Ty} {x : ByteArray} (h : namesIn n t x) : Rch n es t x := ⟨0, h⟩
theorem Rch.step {n : Nat} {es : List (ByteArray × Ty)} {t : Ty} {x y : ByteArray} (h : Rch n es t x) (k : Nx n es x y) : Rch n es t y := by
 obtain ⟨i, hi⟩ := h
 exact ⟨i + 1, .inr ⟨x, hi, k⟩⟩
theorem Lv.mono {n : Nat} {es : List (ByteArray × Ty)} {t : Ty} {i j : Nat} {x : ByteArray} (h : Lv n es t i x) (hij : i ≤ j) : Lv n es t j x := by
 induction j with
 | zero =>
  obtain rfl : i = 0 := by omega
  exact h
 | succ j ih =>
  by_cases c : i = j + 1
  ·subst c; exact h
  ·exact .inl (ih (by omega))
theorem Lv.rch {n : Nat} {es : List (ByteArray × Ty)} {t : Ty} {i : Nat} {x : ByteArray} (h : Lv n es t i x) : Rch n es t x := ⟨i, h⟩
theorem countP_all {α : Type} (p q : α → Bool) (l : List α) (h : ∀ x ∈ l, p x = true → q x = true) : l.countP p ≤ l.countP q ∧ (l.countP p = l.countP q → ∀ x ∈ l, q x = true → p x = true) := by
 induction l with
 | nil => exact ⟨Nat.le_refl _, fun _ x hx => absurd hx (by simp)⟩
 | cons a r ih =>
  obtain ⟨h1, h2⟩ := ih fun x hx => h x (List.mem_cons_of_mem _ hx)
  have ha := h a (by simp)
  rw [List.countP_cons, List.countP_cons]
  cases hp : p a <;> cases hq : q a
  ·refine ⟨by simpa using h1, fun e x hx hqx => ?_⟩
   rcases List.mem_cons.1 hx with rfl | hx
   ·rw [hq] at hqx; cases hqx
   ·exact h2 (by simpa using e) x hx hqx
  ·refine ⟨by simp; omega, fun e => ?_⟩
   simp at e
   omega
  ·rw [hq] at ha; exact absurd (ha hp) (by simp)
  ·refine ⟨by simp; omega, fun e x hx hqx => ?_⟩
   rcases List.mem_cons.1 hx with rfl | hx
   ·exact hp
   ·exact h2 (by simpa using e) x hx hqx
open Classical in
theorem rch_lv {n : Nat} {es : List (ByteArray × Ty)} {t : Ty} {x : ByteArray} (h : Rch n es t x) : Lv n es t (es.length + 1) x := by
 -- how many of the list are reached by so many steps
 let c : Nat → Nat := fun i => (List.range es.length).countP fun j => decide (∃ h : j < es.length, Lv n es t i es[j].1)
 have hle : ∀ i, c i ≤ es.length := fun i => by
  have := List.countP_le_length (p := fun j => decide (∃ h : j < es.length, Lv n es t i es[j].1)) (l := List.range es.length)
  rwa [List.length_range] at this
 have hup : ∀ i, c i ≤ c (i + 1) ∧ (c i = c (i + 1) → ∀ j (hj : j < es.length), Lv n es t (i + 1) es[j].1 → Lv n es t i es[j].1) := fun i => by
  obtain ⟨h1, h2⟩ := countP_all (fun j => decide (∃ h : j < es.length, Lv n es t i es[j].1)) (fun j => decide (∃ h : j < es.length, Lv n es t (i + 1) es[j].1)) (List.range es.length) fun j hj hp => by
   obtain ⟨hj', hl⟩ := of_decide_eq_true hp
   exact decide_eq_true ⟨hj', .inl hl⟩
  refine ⟨h1, fun e j hj hl => ?_⟩
  have := h2 e j (List.mem_range.2 hj) (decide_eq_true ⟨hj, hl⟩)
  exact (of_decide_eq_true this).2
 -- somewhere nothing is added
 have hst : ∃ i, i ≤ es.length ∧ c i = c (i + 1) := by
  apply Classical.byContradiction
  intro hn
  have hgt : ∀ i, i ≤ es.length + 1 → i ≤ c i := fun i => by
   induction i with
   | zero => intro _; exact Nat.zero_le _
   | succ i ih =>
    intro hi
    have h1 := ih (by omega)
    have h2 := (hup i).1
    have h3 : c i ≠ c (i + 1) := fun e => hn ⟨i, by omega, e⟩
    omega
  have := hgt (es.length + 1) (Nat.le_refl _)
  have := hle (es.length + 1)
  omega
 obtain ⟨i, hi, e⟩ := hst
 have hback := (hup i).2 e
 have hclose : ∀ k z, Lv n es t (i + 1 + k) z → Lv n es t (i + 1) z := fun k => by
  induction k with
  | zero => exact fun z h => h
  | succ k ih =>
   intro z hz
   rcases hz with hz | ⟨y, h1, j, hf, h2⟩
   ·exact ih z hz
   ·have hy := ih y h1
    obtain ⟨hj, he, hm⟩ := hf
    have : Lv n es t i es[j].1 := hback j hj (by rw [he]; exact hy)
    rw [he] at this
    exact .inr ⟨y, this, j, ⟨hj, he, hm⟩, h2⟩
 obtain ⟨k, hk⟩ := h
 have := hclose k x (hk.mono (by omega))
 exact this.mono (by omega)
theorem nodup_len {l m : List ByteArray} (h : l.Nodup) (hs : ∀ x ∈ l, x ∈ m) : l.length ≤ m.length := by
 induction l generalizing m with
 | nil => exact Nat.zero_le _
 | cons a r ih =>
  rw [List.nodup_cons] at h
  have ha := hs a (by simp)
  obtain ⟨u, v, rfl⟩ := List.append_of_mem ha
  have h1 := ih (m := u ++ v) h.2 fun x hx => by
   have hne : x ≠ a := fun e => h.1 (e ▸ hx)
   have := hs x (List.mem_cons_of_mem _ hx)
   simp only [List.mem_append, List.mem_cons] at this ⊢
   rcases this with h | h | h
   ·exact .inl h
   ·exact absurd h hne
   ·exact .inr h
  simp only [List.length_append, List.length_cons] at h1 ⊢
  omega
theorem asc_nodup {l : List ByteArray} (h : Asc l) : l.Nodup := by
 unfold Asc at h
 exact List.Pairwise.imp (fun {a b} (hab : bl a b) (e : a = b) => bl_irrefl b (by rw [e] at hab; exact hab)) h
def allNames (n : Nat) (es : List (ByteArray × Ty)) (t : Ty) : List ByteArray := ((Ty.nodes n t).map (·.name)) ++ es.flatMap fun e => (Ty.nodes n e.2).map (·.name)
theorem rch_all {n : Nat} {es : List (ByteArray × Ty)} {t : Ty} {x : ByteArray} (h : Rch n es t x) : x ∈ allNames n es t := by
 obtain ⟨i, h⟩ := h
 induction i with
 | zero =>
  obtain ⟨u, hu, _, e⟩ := h
  exact List.mem_append_left _ (List.mem_map.2 ⟨u, hu, e⟩)
 | succ i ih =>
  rcases h with h | ⟨_, _, j, hf, u, hu, _, e⟩
  ·exact ih h
  ·exact List.mem_append_right _ (List.mem_flatMap.2 ⟨_, List.getElem_mem hf.1, List.mem_map.2 ⟨u, hu, e⟩⟩)
end Go.Proofs.YtbojmbeopnlmiaaGreatDoor
