/-
  At every store impl.StoreOk answers as the specification does (the law itself passes stores that hold more than 1048576 by), and nothing that was there has turned. Its condition: the library's three listed tables hold what the program's text lays into them, which the card ties to that text.
-/
import Derived.Test.YtoebfpdalkpkdaaDoorCards
import Derived.Test.YtoebfpdalkpkdaaDoorTie
import Derived.Test.YtoebfpdalkpkdaaDoorItO
import Derived.Test.YtoebfpdalkpkdaaDoorItP
import Derived.Lib.ItoaNum
import Derived.ProofKit
import Derived.OpenShut
import Derived.ShutString
import Derived.ChangeOld
import Derived.Deep.DeepHandedRow
namespace Go.Proofs.YtoebfpdalkpkdaaDoor.exactStoreOk
open Go.ChangeShapes Go.WideShapes Go.ChangeAt Go.RowKit
open Go.ChangeMaps (open_string shut_string)

theorem own : ownKnob Tryd.prog.godebug = none := by kernel_rfl
theorem gTab : Tryd.prog.globalNamed "math/bits.deBruijn64tab" = some 3 := by kernel_rfl
theorem gTabType : (Tryd.prog.globals[3]?).map (·.type) = some 156 := by kernel_rfl
def u8s (l : List Int) : Array Value := (l.map fun z => Value.int .u8 z).toArray
def bare32 : List Int := [0, 1, 28, 2, 29, 14, 24, 3, 30, 22, 20, 15, 25, 17, 4, 8, 31, 27, 13, 23, 21, 19, 16, 7, 26, 12, 18, 6, 11, 5, 10, 9]
def bare64 : List Int := [0, 1, 56, 2, 57, 49, 28, 3, 61, 58, 42, 50, 38, 29, 17, 4, 62, 47, 59, 36, 45, 43, 51, 22, 53, 39, 33, 30, 24, 18, 12, 5, 63, 55, 48, 27, 60, 41, 37, 16, 46, 35, 44, 21, 52, 32, 23, 11, 54, 26, 40, 15, 34, 20, 31, 10, 25, 14, 19, 9, 13, 8, 7, 6]
theorem tabDatum : (Rows.laid_math_bits_deBruijn64tab : DataW Unit) = Lib.tabData .u8 bare64 := by kernel_rfl

def TwoI (w : World) (b : Nat) (x0 x1 : Value) : Prop := w.cell? ⟨b, 0, none⟩ = some x0 ∧ w.cell? ⟨b, 1, none⟩ = some x1
theorem two_newI {w wx : World} {b : Nat} {x0 x1 : Value} {t : TypeId} (h : b = w.heap.size) (hb : Below (b + 1) (w.alloc (.cells #[x0, x1] t)) wx) : TwoI wx b x0 x1 := by
  subst h
  exact ⟨(hb.cell (p := ⟨w.heap.size, 0, none⟩) (by show w.heap.size < w.heap.size + 1; omega)).trans (itNew 0 rfl), (hb.cell (p := ⟨w.heap.size, 1, none⟩) (by show w.heap.size < w.heap.size + 1; omega)).trans (itNew 1 rfl)⟩

/-- the second of three tables that a row lists -/
theorem second {P : Program} {W : World} {n1 n2 n3 : String} {d1 d3 : DataW Unit} {k : IntKind} {zs : List Int} {g : Nat} {t e : TypeId} {n : Nat}
    (hg : P.globalNamed n2 = some g) (hty : (P.globals[g]?).map (·.type) = some t) (ht : P.underlying t = some (.array n e)) (he : P.underlying e = some (.int k)) (hce : P.cellsOf e = 1) (hct : P.cellsOf t = n)
    (h : laidMet P [(n1, d1), (n2, Lib.tabData k zs), (n3, d3)] W) : Lib.TabIs P W n2 k zs := by
  obtain ⟨ps, ⟨_, _, _, _, _, _, _, _, _, _, ⟨g', t', cs, fuel, p, q, hg', ht', hvar, hd, _, _⟩, _⟩, _⟩ := h
  obtain rfl := Option.some.inj (hg.symm.trans hg')
  obtain rfl := Option.some.inj (hty.symm.trans ht')
  unfold Lib.TabIs
  rw [hvar, ← Lib.cells_of_tab ht he hce hct hd]

theorem table {W : World} (h : laidMetH Tryd.prog Rows.fnExactStoreOkRow.laid W) : W.cell? ⟨3, 15, none⟩ = some (.int .u8 4) := by
  have h2 : laidMet Tryd.prog [("math/bits.deBruijn32tab", Rows.laid_math_bits_deBruijn32tab), ("math/bits.deBruijn64tab", Rows.laid_math_bits_deBruijn64tab), ("internal/strconv.uint64pow10", Rows.laid_internal_strconv_uint64pow10)] W := h
  rw [tabDatum] at h2
  exact (second gTab gTabType Tryd.underlying156 Tryd.underlying5 (by kernel_rfl) (by kernel_rfl) h2).cell gTab 15 (by decide)

set_option maxHeartbeats 1600000 in
set_option maxRecDepth 100000 in
open Classical in
theorem walk (room : Int) (v : Value) (es : List Itm) (w : World) (h : ItAt w v es) (hl : es.length ≤ maxLen) (hsz : ∀ e ∈ es, e.1.size ≤ maxLen ∧ e.2.1.size ≤ maxLen ∧ e.2.2.size ≤ maxLen) (hc : w.cell? ⟨3, 15, none⟩ = some (.int .u8 4)) :
    Calls Tryd.prog 3 #[.agg #[.int .i64 room, v]] w fun e w' => e = .returned (.bool true) ∧ Below w.heap.size w w' := by
  obtain ⟨av, capv, rfl, _⟩ := itOpen h
  have hB1 : Below w.heap.size w (w.alloc (.cells #[.int .i64 room, .slice av es.length capv] 24)) := (Below.refl _ _).alloc (Nat.le_refl _) _
  have HZ : Hid (∀ wx : World, Below w.heap.size w wx → Calls Tryd.prog 8 #[.agg #[.int .i64 room, .slice av es.length capv], .int .i64 1048576] wx fun e w' => e = .returned (.int .i64 (leftI (itsBulk es) 1048576)) ∧ Below wx.heap.size wx w') := fun wx hx => lawsSzStore room _ es wx (h.below hx) hl hsz
  by_cases hbk : itsBulk es ≤ 1048576
  · have hz1 : leftI (itsBulk es) 1048576 = 1048576 - (itsBulk es : Nat) := if_pos (by omega)
    rw [hz1] at HZ
    have hlen : es.length ≤ 1048576 := by unfold itsBulk at hbk; omega
    have hct : ∀ wx : World, Below w.heap.size w wx → wx.cell? ⟨3, 15, none⟩ = some (.int .u8 4) := fun wx hx => (hx.cell (p := ⟨3, 15, none⟩) (World.block_lt_of_cell? w ⟨3, 15, none⟩ hc)).trans hc
    have HT : Hid (∀ wx : World, Below w.heap.size w wx → Calls Tryd.prog 10 #[.agg #[.int .i64 room, .slice av es.length capv]] wx fun e w' => ∃ g, e = .returned (.agg #[.int .i64 room, .slice (some ⟨g, 0, none⟩) es.length es.length]) ∧ w'.ownsRow wx.heap.size 50 3 (.slice (some ⟨g, 0, none⟩) es.length es.length) es.length (itV es) ∧ Below wx.heap.size wx w') := fun wx hx => lawsToStore room _ es wx (h.below hx) hlen
    have HS : Hid (∀ (u : Value) (wx : World), ItAt wx u es → Calls Tryd.prog 9 #[.agg #[.int .i64 room, u]] wx fun e w' => e = .returned (.bool (decide (StoreRight room es))) ∧ Below wx.heap.size wx w') := fun u wx h => specStoreOk room u es wx h (by omega)
    have HI : Hid (∀ (u : Value) (wx : World), ItAt wx u es → Below w.heap.size w wx → Calls Tryd.prog 11 #[.agg #[.int .i64 room, u]] wx fun e w' => e = .returned (.bool (decide (StoreRight room es))) ∧ Below wx.heap.size wx w') := fun u wx h hx => implStoreOk room u es wx h (by omega) (hct wx hx)
    have HE : Hid (∀ (ua ub : Value) (wx : World), ItAt wx ua es → ItAt wx ub es → Calls Tryd.prog 12 #[.agg #[.int .i64 room, ua], .agg #[.int .i64 room, ub]] wx fun e w' => e = .returned (.bool true) ∧ Below wx.heap.size wx w') := fun ua ub wx ha hb => lawsEqStore room ua ub es wx ha hb (by omega)
    clear h hz1 hc hct hsz
    generalize decide (StoreRight room es) = r at *
    have hr : (r != r) = false := by cases r <;> rfl
    generalize hB : itsBulk es = B at *
    clear hB
    have hneg : ¬ (1048576 - (B : Int) < 0) := by omega
    go_enter Tryd.func3, Tryd.ntmps3
    go_wp2_with fail
    refine (HZ.out _ hB1).mono ?_
    rintro e w1 ⟨rfl, hb1⟩
    have D1 : Below (w.heap.size + 1) (w.alloc (.cells #[.int .i64 room, .slice av es.length capv] 24)) w1 := hb1.mono (by simp)
    have HA : Hid (∀ wx : World, Below (w.heap.size + 1) (w.alloc (.cells #[.int .i64 room, .slice av es.length capv] 24)) wx → TwoI wx w.heap.size (.int .i64 room) (.slice av es.length capv) ∧ Below w.heap.size w wx) := fun wx hx => ⟨two_newI rfl hx, hB1.trans (hx.mono (by omega))⟩
    have hz1 : w.heap.size + 1 ≤ w1.heap.size := by have := hb1.size; simpa using this
    clear hb1 HZ
    obtain ⟨⟨a0, a1⟩, hw1⟩ := HA.out w1 D1
    go_wp2_with fail
    refine (HT.out _ hw1).mono ?_
    rintro e w2 ⟨g2, rfl, ho2, hb2⟩
    have D2 := D1.trans (hb2.mono hz1)
    have hz2 : w.heap.size + 1 ≤ w2.heap.size := Nat.le_trans hz1 hb2.size
    have HS2 : Hid (type_of% (HS.out _ _ (itRow ho2))) := HS.out _ _ (itRow ho2)
    clear a0 a1 hw1 ho2 D1 hz1 hb2 HS
    obtain ⟨⟨a0, a1⟩, hw2⟩ := HA.out w2 D2
    go_wp2_with fail
    refine HS2.out.mono ?_
    rintro e w3 ⟨rfl, hb3⟩
    have D3 := D2.trans (hb3.mono hz2)
    have hz3 : w.heap.size + 1 ≤ w3.heap.size := Nat.le_trans hz2 hb3.size
    clear a0 a1 hw2 D2 hz2 hb3 HS2
    obtain ⟨⟨a0, a1⟩, hw3⟩ := HA.out w3 D3
    go_wp2_with fail
    refine (HT.out _ hw3).mono ?_
    rintro e w4 ⟨g4, rfl, ho4, hb4⟩
    have D4 := D3.trans (hb4.mono hz3)
    have hz4 : w.heap.size + 1 ≤ w4.heap.size := Nat.le_trans hz3 hb4.size
    have hq4 := itRow ho4
    clear a0 a1 hw3 ho4 D3 hz3 hb4
    have D5 : Below (w.heap.size + 1) (w.alloc (.cells #[.int .i64 room, .slice av es.length capv] 24)) (w4.alloc (.cells #[.int .i64 room, .slice (some ⟨g4, 0, none⟩) es.length es.length] 29)) := D4.alloc hz4 _
    have hq5 : ItAt (w4.alloc (.cells #[.int .i64 room, .slice (some ⟨g4, 0, none⟩) es.length es.length] 29)) (.slice (some ⟨g4, 0, none⟩) es.length es.length) es := hq4.below ((Below.refl _ _).alloc (Nat.le_refl _) _)
    have HJ : Hid (∀ wx : World, Below (w4.heap.size + 1) (w4.alloc (.cells #[.int .i64 room, .slice (some ⟨g4, 0, none⟩) es.length es.length] 29)) wx → TwoI wx w4.heap.size (.int .i64 room) (.slice (some ⟨g4, 0, none⟩) es.length es.length) ∧ ItAt wx (.slice (some ⟨g4, 0, none⟩) es.length es.length) es) := fun wx hx => ⟨two_newI rfl hx, hq5.below (hx.mono (by simp))⟩
    have HC := HI.out _ _ hq5 (hB1.trans (D5.mono (by omega)))
    have HC2 : Hid (type_of% HC) := HC
    clear hq4 hq5 D4 HI HC
    go_wp2_with fail
    refine HC2.out.mono ?_
    rintro e w6 ⟨rfl, hb6⟩
    have E6 : Below (w4.heap.size + 1) (w4.alloc (.cells #[.int .i64 room, .slice (some ⟨g4, 0, none⟩) es.length es.length] 29)) w6 := hb6.mono (by simp)
    have D6 : Below (w.heap.size + 1) (w.alloc (.cells #[.int .i64 room, .slice av es.length capv] 24)) w6 := D5.trans (hb6.mono (by simp; omega))
    have hz6 : w4.heap.size + 1 ≤ w6.heap.size := by have := hb6.size; simpa using this
    clear hb6 HC2 D5
    obtain ⟨⟨a0, a1⟩, hw6⟩ := HA.out w6 D6
    obtain ⟨⟨b0, b1⟩, hq6⟩ := HJ.out w6 E6
    go_wp2_with fail
    go_region_with (first | (go_at_call 10; refine (HT.out _ hw6.drew).mono ?_; rintro e w7 ⟨g7, rfl, ho7, hb7⟩; have E7 := E6.drew.trans (hb7.mono hz6); have hw7 := hw6.drew.trans (hb7.mono hw6.size); obtain ⟨⟨c0, c1⟩, hq7⟩ := HJ.out w7 E7) | (go_at_call 12; refine (HE.out _ _ _ hq7 (itRow ho7)).mono ?_; rintro e w8 ⟨rfl, hb8⟩))
    all_goals
      go_wp2_with fail
      go_ret
      exact ⟨rfl, hw7.trans (hb8.mono hw7.size)⟩
  · have hz1 : leftI (itsBulk es) 1048576 = -1 := if_neg (by omega)
    rw [hz1] at HZ
    clear h hbk hz1 hc
    go_enter Tryd.func3, Tryd.ntmps3
    go_wp2_with fail
    refine (HZ.out _ hB1).mono ?_
    rintro e w1 ⟨rfl, hb1⟩
    go_wp2_with fail
    go_ret
    exact ⟨rfl, hB1.trans (hb1.mono hB1.size)⟩

theorem laidOut : laidOutB Tryd.prog = true := by kernel_rfl

set_option maxRecDepth 100000 in
theorem contract (H : Type) (enc : TypeId × Value → H) (W : World) (base : Nat) (args : Array Value) (ds gs : List (DataW H)) (before : List MemPlace)
    (hval : ∀ (j : Nat) t v, Tryd.f3.params[j]? = some t → args[j]? = some v → Value.okWide Tryd.prog W .any base t v)
    (hW : DataW.Whole enc Tryd.prog Tryd.f3.params.toList Rows.fnExactStoreOkSpec.vars false W args.toList ds gs before) (hL : laidMetH Tryd.prog Rows.fnExactStoreOkRow.laid W) :
    Calls Tryd.prog 3 args W fun e W' => ∃ v, e = .returned v ∧ Rows.fnExactStoreOkSpec.post enc Tryd.prog Tryd.f3 false true false false W args v W' := by
  have hW' := hW
  obtain ⟨p, q, hA0, hV, rfl, hfz, hnd⟩ := hW
  have hA : DataW.TrodAll enc Tryd.prog W 0 (fun _ => true) true Tryd.f3.params.toList args.toList ds p := hA0
  rw [Tryd.params3] at hA hval
  obtain ⟨v0, vs0, d0, ds0, p0, q0, hargs, rfl, rfl, h0, r0⟩ := trodAll_cons hA
  obtain ⟨rfl, rfl, rfl⟩ := trodAll_nil r0
  obtain rfl : args = #[v0] := by cases args; simp_all
  obtain ⟨rfl, rfl⟩ := trodVars_none hV
  obtain ⟨cs, rfl, hcs⟩ := okWide_struct Tryd.underlying24 (hval 0 24 v0 rfl rfl)
  have k0 := h0
  have lt0 : ∀ x ∈ p0, x.block < W.heap.size := by obtain ⟨m, hm⟩ := k0; exact DataW.trod_lt m _ _ _ hm
  obtain ⟨fuel, hf⟩ := h0
  obtain ⟨room, v, es, hcv, _, ht, hl, hsz⟩ := opened_store fuel _ _ hf
  obtain rfl : cs = #[.int .i64 room, v] := by
    cases cs
    simpa [Value.cells] using hcv
  clear hA0
  refine (walk room v es W ht hl hsz (table hL)).mono fun e W' ⟨he, bel⟩ => ?_
  subst he
  exact ⟨_, rfl, _, _, _, [], _, [], hW', trodAll_mk1 (shut_bool Tryd.underlying4 _), (trodAll_cons_mk (Below.trod laidOut (by kernel_rfl) (of_decide_eq_true (by kernel_rfl)) k0 bel lt0) trodAll_mk0), rfl, bel.frame _, fun h => by cases h⟩

def fill (cs : Array Value) : Obj → Obj
  | .cells _ t frozen => .cells cs t frozen
  | o => o
def laidWorld (P : Program) (os : Os) : World :=
  { World.holding P os ⟨#[], #[], []⟩ with heap := (((World.holding P os ⟨#[], #[], []⟩).heap.modify 0 (fill (Lib.pow10Tab.map fun z => Value.int .u64 z).toArray)).modify 2 (fill (u8s bare32))).modify 3 (fill (u8s bare64)) }
theorem laid_met (os : Os) : laidMet Tryd.prog Rows.fnExactStoreOkRow.laid ((laidWorld Tryd.prog os).forCall (fun _ _ => 0) ⟨#[], #[.agg #[.int .i64 0, .slice none 0 0]], []⟩).memory :=
  laidMet_of_run' 8 (by kernel_rfl) (by kernel_rfl)
theorem reads (os : Os) {H : Type} (enc : TypeId × Value → H) : ∃ places, DataW.whole enc Tryd.prog ((laidWorld Tryd.prog os).forCall (fun _ _ => 0) ⟨#[], #[.agg #[.int .i64 0, .slice none 0 0]], []⟩).memory Tryd.f3.params.toList Rows.fnExactStoreOkSpec.vars false #[Value.agg #[.int .i64 0, .slice none 0 0]].toList 8 = some ([.agg [.lit (.int .i64 0), .nil]], [], places) :=
  ⟨[], by kernel_rfl⟩

set_option maxRecDepth 100000 in
theorem lifted (os : Os) (started : os.Started) (H : Type) (enc : TypeId × Value → H) (F : Stop.Interp) :
    ReturnsInHanded {} Tryd.checked os 3 .any ((OpenSpec.ofChange Rows.fnExactStoreOkSpec).preRow enc Tryd.prog Tryd.f3 Rows.fnExactStoreOkRow.domain false Rows.fnExactStoreOkRow.laid) (((OpenSpec.ofChange Rows.fnExactStoreOkSpec).at F).post enc Tryd.prog Tryd.f3 false true false false) := by
  obtain ⟨places, hx⟩ := reads os enc
  refine returnsInHanded_of_row (C := Tryd.checked) (s := OpenSpec.ofChange Rows.fnExactStoreOkSpec) own started (by kernel_rfl) Tryd.func3
    (witness_row_at (enc := enc) (C := Tryd.checked) false (laidWorld Tryd.prog os) #[.agg #[.int .i64 0, .slice none 0 0]] rfl (by kernel_rfl) (by kernel_rfl) (by kernel_rfl)
      (OpenSpec.preRow_of_cond 8 hx (by kernel_rfl) (fun k hk => by cases hk) (by kernel_rfl) (laid_met os))) ?_
  intro W base args ds gs before hval hW _ _ _ hL _ _
  exact contract H enc W base args ds gs before hval hW hL

theorem said : Rows.FnExactStoreOkSaid :=
  OpenClaim.holds_of_cond 3 Tryd.f3 rfl rfl rfl rfl rfl rfl rfl ⟨rfl, rfl, rfl, rfl, rfl⟩ rfl rfl rfl rfl rfl (by kernel_rfl) Tryd.func3 (by kernel_rfl)
    (of_decide_eq_true (by kernel_rfl)) (by unfold Func.isWrapper; first | (rw [if_pos (by decide +kernel)]; kernel_rfl) | (rw [if_neg (by decide +kernel)]; exact ⟨rfl, rfl⟩))
    (fun os started H enc _ F => by rw [OpenClaim.pre_eq_preRow]; exact lifted os started H enc F)

theorem plain (f : FuncId) (fn : Func) (hf : Tryd.pinned.checked.prog.funcNamed "loop.example/g00276/laws.FnExactStoreOk" = some f) (hfn : Tryd.pinned.checked.prog.funcs[f]? = some fn) :
    Rows.fnExactStoreOkCard.stood.looks = Tryd.pinned.checked.prog.looks [] ∧ ∀ (j : Nat) t, fn.params[j]? = some t → Tryd.pinned.checked.prog.wantsStandIn t = false := by
  obtain rfl : f = 3 := Option.some.inj ((show Tryd.prog.funcNamed "loop.example/g00276/laws.FnExactStoreOk" = some 3 by kernel_rfl).symm.trans hf) |>.symm
  obtain rfl : fn = Tryd.f3 := (Option.some.inj (Tryd.func3.symm.trans hfn)).symm
  refine ⟨by kernel_rfl, fun j t ht => ?_⟩
  rw [Tryd.params3] at ht
  obtain rfl : t = 24 := by simpa using Array.mem_of_getElem? ht
  exact (show Tryd.prog.wantsStandIn 24 = false by kernel_rfl)

end Go.Proofs.YtoebfpdalkpkdaaDoor.exactStoreOk

namespace Go.Proofs.YtoebfpdalkpkdaaDoor

theorem exactStoreOk_holds : Rows.FnExactStoreOkCardSaid :=
  Claim7.holds_tied_plain_at .later [] _ _ _ _ exactStoreOk.said (fun _ h => by cases h) (by kernel_rfl) (fun _ h => by cases h) fnExactStoreOk_row_tie rfl ⟨rfl, rfl⟩ (by kernel_rfl) rfl exactStoreOk.plain (by kernel_rfl)

end Go.Proofs.YtoebfpdalkpkdaaDoor
