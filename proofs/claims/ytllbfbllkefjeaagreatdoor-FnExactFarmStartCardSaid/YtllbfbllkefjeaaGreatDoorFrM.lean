/-
  A map that counts texts: what is found, one counted once more; the walks of impl.doneNames, impl.areDone and of impl.join of nothing.
-/
import Derived.Test.YtllbfbllkefjeaaGreatDoorMapT
import Derived.Test.YtllbfbllkefjeaaGreatDoorRsR
import Derived.Test.YtllbfbllkefjeaaGreatDoorSrD
import Derived.Test.YtllbfbllkefjeaaGreatDoorJoinW
import Derived.WalkSmall
namespace Go.Proofs.YtllbfbllkefjeaaGreatDoor
open Go.RowKit

theorem findNow_first (s : ByteArray) : ∀ (es : List MapEntry) (D : List (ByteArray × Value)) (i : Nat), es.map (fun x => (x.key, x.val)) = D.map (fun p => (Value.string p.1, p.2)) → ∃ r, Instr.findNow .string (.string s) es i = some r ∧ r.map (·.2) = lookT D s ∧ ∀ j v, r = some (j, v) → ∃ m, j = i + m ∧ ∃ hm : m < D.length, D[m].1 = s ∧ ∀ a (ha : a < m), (D[a]'(by omega)).1 ≠ s := by
  intro es
  induction es with
  | nil =>
    intro D i h
    cases D with
    | nil => exact ⟨none, rfl, rfl, fun j v h => by cases h⟩
    | cons p q => simp at h
  | cons x r ih =>
    intro D i h
    cases D with
    | nil => simp at h
    | cons p q =>
      simp only [List.map_cons, List.cons.injEq, Prod.mk.injEq] at h
      obtain ⟨⟨hk, hv⟩, hr⟩ := h
      obtain ⟨u, hu1, hu2, hu3⟩ := ih q (i + 1) hr
      by_cases c : p.1 = s
      · refine ⟨some (i, x.val), ?_, ?_, fun j v e => ?_⟩
        · simp only [Instr.findNow, hk, Instr.sameNow, beq_textT, c, decide_true]
        · show some x.val = if p.1 = s then some p.2 else lookT q s
          rw [if_pos c, hv]
        · simp only [Option.some.injEq, Prod.mk.injEq] at e
          exact ⟨0, by omega, by simp, c, fun a ha => absurd ha (by omega)⟩
      · refine ⟨u, ?_, ?_, fun j v e => ?_⟩
        · have c' : ¬ s = p.1 := fun e => c e.symm
          simp only [Instr.findNow, hk, Instr.sameNow, beq_textT, c', decide_false]
          exact hu1
        · show u.map (·.2) = if p.1 = s then some p.2 else lookT q s
          rw [if_neg c]
          exact hu2
        · obtain ⟨m, h1, h2, h3, h4⟩ := hu3 j v e
          refine ⟨m + 1, by omega, by simpa using h2, h3, fun a ha => ?_⟩
          cases a with
          | zero => exact c
          | succ a => exact h4 a (by omega)

theorem lookT_set (s : ByteArray) (v : Value) : ∀ (D : List (ByteArray × Value)) (m : Nat) (hm : m < D.length), D[m].1 = s → (∀ a (ha : a < m), (D[a]'(by omega)).1 ≠ s) → ∀ x, lookT (D.set m (s, v)) x = if x = s then some v else lookT D x := by
  intro D
  induction D with
  | nil => intro m hm; simp at hm
  | cons p q ih =>
    intro m hm h1 h2 x
    cases m with
    | zero =>
      have h1' : p.1 = s := h1
      show (if s = x then some v else lookT q x) = if x = s then some v else if p.1 = x then some p.2 else lookT q x
      by_cases c : x = s
      · rw [if_pos c.symm, if_pos c]
      · rw [if_neg (fun e => c e.symm), if_neg c, if_neg (by rw [h1']; exact fun e => c e.symm)]
    | succ m =>
      have h0 : p.1 ≠ s := h2 0 (by omega)
      have := ih m (by simpa using hm) h1 (fun a ha => h2 (a + 1) (by omega)) x
      show (if p.1 = x then some p.2 else lookT (q.set m (s, v)) x) = if x = s then some v else if p.1 = x then some p.2 else lookT q x
      rw [this]
      by_cases c : p.1 = x
      · have hx : ¬ x = s := fun e => h0 (c.trans e)
        rw [if_pos c, if_neg hx, if_pos c]
      · rw [if_neg c, if_neg c]

/-- one that is there, put anew -/
theorem run_update_oldT {P : Program} {w : World} {T k e : TypeId} {M : Nat} {D : List (ByteArray × Value)} (hT : P.underlying T = some (.map k e)) (hk : P.underlying k = some .string) (hM : TMap w M D) (s : ByteArray) (v0 : Value) (hs : lookT D s = some v0) (v : Value) :
    ∃ w' D', (Instr.mapUpdate T (.map (some M)) (.string s) v).run P w = .ok () w' ∧ TMap w' M D' ∧ (∀ x, lookT D' x = if x = s then some v else lookT D x) ∧ ButT M w w' := by
  obtain ⟨es, clock, hb, hes⟩ := hM
  obtain ⟨r, h1, h2, h3⟩ := findNow_first s es.toList D 0 hes
  rw [hs] at h2
  obtain ⟨⟨j, val⟩, rfl⟩ : ∃ p, r = some p := by cases r <;> simp_all
  obtain ⟨m, hj, hm, hms, hfst⟩ := h3 j val rfl
  obtain rfl : j = m := by omega
  have hf : (Instr.findKey k (.string s) es.toList).run P w = .ok (some (j, val)) w := by simp [Instr.findKey, run_underlying hk, h1]
  have hc : ∀ b, (Instr.checkKey b 10000 k (.string s)).run P w = .ok () w := fun b => run_checkKey_textT 9999 hk _
  have hlen : es.toList.length = D.length := by have := congrArg List.length hes; simpa using this
  have hjl : j < es.size := by rw [← Array.length_toList]; omega
  have hkey : es[j].key = .string s := by
    have := congrArg (fun l => l[j]?) hes
    simp only [List.getElem?_map, Array.getElem?_toList, Array.getElem?_eq_getElem hjl, List.getElem?_eq_getElem hm, Option.map_some, Option.some.injEq, Prod.mk.injEq] at this
    rw [this.1, hms]
  have hst : (Instr.keyThatStays (((es[j]?).map (·.key)).getD (.string s)) (.string s)).run P w = .ok (.string s) w := by
    rw [Array.getElem?_eq_getElem hjl]
    simp [Instr.keyThatStays, hkey, Instr.sameBits, beq_textT]
  have hr : (Instr.mapUpdate T (.map (some M)) (.string s) v).run P w = .ok () { w with heap := w.heap.setIfInBounds M (.map (es.modify j fun e => { e with key := .string s, val := v }) clock) } := by
    simp [Instr.mapUpdate, run_underlying hT, MapKept.run_getObj_map hb, hc, hf, hst, MapKept.run_setObj_map _ hb, Result.andThen]
  obtain ⟨n1, n2⟩ := MapKept.heap_set (o' := .map (es.modify j fun e => { e with key := .string s, val := v }) clock) hb
  refine ⟨_, D.set j (s, v), hr, ⟨_, _, n1, ?_⟩, lookT_set s v D j hm hms hfst, ⟨rfl, rfl, rfl, by simp, fun b hb => n2 b hb⟩⟩
  apply List.ext_getElem?
  intro i
  have hi := congrArg (fun l => l[i]?) hes
  simp only [List.getElem?_map, Array.getElem?_toList, Array.getElem?_modify, List.getElem?_set] at hi ⊢
  by_cases c : j = i
  · subst c
    simp [Array.getElem?_eq_getElem hjl, hm]
  · simp only [c, if_false]
    exact hi

/-- how often each text stands among these -/
def CntD (D : List (ByteArray × Value)) (names : List ByteArray) : Prop := ∀ s, (s ∈ names → ∃ c : Nat, 1 ≤ c ∧ c ≤ names.length ∧ lookT D s = some (.int .i64 c)) ∧ (s ∉ names → lookT D s = none)
theorem CntD.nil : CntD [] [] := fun s => ⟨fun h => by simp at h, fun _ => rfl⟩

theorem lookCnt {W : World} {M : Nat} {D : List (ByteArray × Value)} (hM : TMap W M D) (s : ByteArray) : Sem.run Tryz.prog (Instr.lookup 95 (.map (some M)) (.string s) false) W = .ok (match lookT D s with | some v => v | none => .int .i64 0) W := by
  have := run_lookup_textT (P := Tryz.prog) (T := 95) (k := 9) (e := 3) (z := .int .i64 0) Tryz.underlying95 Tryz.underlying9 (by kernel_rfl) hM s false
  exact this
/-- one text counted once more -/
theorem cntMore {W : World} {M : Nat} {D : List (ByteArray × Value)} {names : List ByteArray} (hM : TMap W M D) (hD : CntD D names) (s : ByteArray) : ∃ (c : Nat) (W' : World) (D' : List (ByteArray × Value)), c ≤ names.length ∧ (match lookT D s with | some v => v | none => .int .i64 0) = .int .i64 c ∧ Sem.run Tryz.prog (Instr.mapUpdate 95 (.map (some M)) (.string s) (.int .i64 ((c : Int) + 1))) W = .ok () W' ∧ TMap W' M D' ∧ CntD D' (names ++ [s]) ∧ ButT M W W' := by
  by_cases c : s ∈ names
  · obtain ⟨n, h1, h2, h3⟩ := (hD s).1 c
    obtain ⟨W', D', r1, r2, r3, r4⟩ := run_update_oldT (P := Tryz.prog) (T := 95) (k := 9) (e := 3) Tryz.underlying95 Tryz.underlying9 hM s _ h3 (.int .i64 ((n + 1 : Nat) : Int))
    refine ⟨n, W', D', h2, by rw [h3], by rw [show (n : Int) + 1 = ((n + 1 : Nat) : Int) from by omega]; exact r1, r2, fun x => ⟨fun hx => ?_, fun hx => ?_⟩, r4⟩
    · rw [r3 x]
      by_cases e : x = s
      · rw [if_pos e]
        exact ⟨n + 1, by omega, by simp; omega, rfl⟩
      · rw [if_neg e]
        have hx' : x ∈ names := by
          rcases List.mem_append.1 hx with h | h
          · exact h
          · exact absurd (by simpa using h) e
        obtain ⟨k, k1, k2, k3⟩ := (hD x).1 hx'
        exact ⟨k, k1, by simp; omega, k3⟩
    · rw [r3 x, if_neg (fun e => hx (by rw [e]; simp))]
      exact (hD x).2 fun h => hx (List.mem_append_left _ h)
  · have h3 := (hD s).2 c
    obtain ⟨W', r1, r2, r3⟩ := run_update_textT (P := Tryz.prog) (T := 95) (k := 9) (e := 3) Tryz.underlying95 Tryz.underlying9 hM s h3 (.int .i64 ((0 + 1 : Nat) : Int))
    refine ⟨0, W', _, Nat.zero_le _, by rw [h3]; rfl, by rw [show ((0 : Nat) : Int) + 1 = ((0 + 1 : Nat) : Int) from by omega]; exact r1, r2, fun x => ⟨fun hx => ?_, fun hx => ?_⟩, r3⟩
    · rw [lookT_app]
      rcases List.mem_append.1 hx with h | h
      · obtain ⟨k, k1, k2, k3⟩ := (hD x).1 h
        exact ⟨k, k1, by simp; omega, by rw [k3]; rfl⟩
      · obtain rfl : x = s := by simpa using h
        rw [h3]
        exact ⟨1, by omega, by simp, by show (if x = x then _ else _) = _; rw [if_pos rfl]⟩
    · rw [lookT_app, (hD x).2 fun h => hx (List.mem_append_left _ h)]
      show (if s = x then some _ else none) = none
      rw [if_neg fun e => hx (by rw [e]; simp)]

/-- a result's lists are slices -/
theorem resSl {w : World} {n : Nat} {e : ResV} (h : e.at w n) : ∃ aD cD aT cT aX cX, e.vD = .slice aD e.ds.length cD ∧ e.vT = .slice aT e.ts.length cT ∧ e.vX = .slice aX e.xs.length cX := by
  obtain ⟨aD, cD, h1, _⟩ := diOpen h.1
  obtain ⟨aT, cT, h2, _⟩ := envOpen h.2.1
  obtain ⟨aX, cX, h3, _⟩ := envOpen h.2.2
  exact ⟨aD, cD, aT, cT, aX, cX, h1, h2, h3⟩

set_option maxHeartbeats 1600000 in
set_option maxRecDepth 100000 in
theorem implDoneNames (n : Nat) (v : Value) (es : List ResV) (w : World) (h : ResAt w n v es) (hl : es.length ≤ 1048576) :
    Calls Tryz.prog 77 #[v] w fun e w' => ∃ M D, e = .returned (.map (some M)) ∧ TMap w' M D ∧ CntD D (es.map (·.rn)) ∧ Below w.heap.size w w' := by
  obtain ⟨a, capa, rfl, ha⟩ := rowA_open h.1
  have HEA : Hid (type_of% ha) := ha
  have HAT : Hid (type_of% h.2) := h.2
  have hmm := @run_makeMap Tryz.prog
  have hbM : Below w.heap.size w (w.alloc (.map #[] 0)) := (Below.refl _ _).alloc (Nat.le_refl _) _
  have HM0 : Hid (TMap (w.alloc (.map #[] 0)) w.heap.size []) := TMap.made (MapKept.heap_alloc w _).1
  clear h ha
  go_enter Tryz.func77, Tryz.ntmps77
  go_wp2_with fail
  go_loopw [9] (fun i wr => ∃ (k : Nat) (D : List (ByteArray × Value)), k ≤ es.length ∧ i = .int .i64 k ∧ TMap wr w.heap.size D ∧ CntD D ((es.take k).map (·.rn)) ∧ Below w.heap.size w wr) (fun i _ => es.length - (intOf i).toNat)
  case atStart => exact ⟨0, [], Nat.zero_le _, rfl, HM0.out, CntD.nil, hbM⟩
  case round =>
    obtain ⟨k, D, hk, rfl, hM, hD, hbe⟩ := hrel
    clear HM0 hbM
    by_cases hlt : k < es.length
    · obtain ⟨ba, oa, rfl, hba, p⟩ := HEA.out k hlt
      have A0 := (hbe.cell (p := ⟨ba, oa + k * 6 + 0, none⟩) hba).trans (p 0 _ rfl)
      have A1 := (hbe.cell (p := ⟨ba, oa + k * 6 + 1, none⟩) hba).trans (p 1 _ rfl)
      have A2 := (hbe.cell (p := ⟨ba, oa + k * 6 + 2, none⟩) hba).trans (p 2 _ rfl)
      have A3 := (hbe.cell (p := ⟨ba, oa + k * 6 + 3, none⟩) hba).trans (p 3 _ rfl)
      have A4 := (hbe.cell (p := ⟨ba, oa + k * 6 + 4, none⟩) hba).trans (p 4 _ rfl)
      have A5 := (hbe.cell (p := ⟨ba, oa + k * 6 + 5, none⟩) hba).trans (p 5 _ rfl)
      rw [Nat.add_zero] at A0
      obtain ⟨aD, cD, aT, cT, aX, cX, v1, v2, v3⟩ := resSl (HAT.out es[k] (List.getElem_mem hlt))
      rw [v1] at A1
      rw [v2] at A4
      rw [v3] at A5
      generalize es[k].ds.length = dl at *
      generalize es[k].ts.length = tl at *
      generalize es[k].xs.length = xl at *
      have hT : (es.take (k + 1)).map (·.rn) = (es.take k).map (·.rn) ++ [es[k].rn] := by rw [List.take_succ_eq_append_getElem hlt, List.map_append]; rfl
      have HTK : Hid (type_of% hT) := hT
      have hnl : ((es.take k).map (·.rn)).length ≤ 1048576 := by rw [List.length_map, List.length_take]; omega
      obtain ⟨WA, hWA⟩ : ∃ WA, WA = wr.alloc (.cells #[.string es[k].rn, .slice aD dl cD, .string es[k].nm, .bool es[k].bad, .slice aT tl cT, .slice aX xl cX] 111) := ⟨_, rfl⟩
      have hbA : Below w.heap.size w WA := by rw [hWA]; exact hbe.alloc hbe.size _
      have hMA : TMap WA w.heap.size D := hM.same (by rw [hWA]; exact Below.heap_alloc wr _ _ hM.lt)
      have hcA : WA.cell? ⟨wr.heap.size, 0, none⟩ = some (.string es[k].rn) := by rw [hWA, newA _ rfl]; rfl
      have hlk := lookCnt hMA es[k].rn
      obtain ⟨c, W', D', hc, hm, hrun, hM', hD', hbut⟩ := cntMore hMA hD es[k].rn
      rw [hm] at hlk
      have hgo : IntKind.i64.wrap ((c : Int) + 1) = ((c + 1 : Nat) : Int) := by rw [IntWalk.i64_in _ ⟨by omega, by omega⟩]; omega
      have HN : Hid (TMap W' w.heap.size D' ∧ CntD D' ((es.take k).map (·.rn) ++ [es[k].rn]) ∧ Below w.heap.size w W') := ⟨hM', hD', hbA.trans (hbut.below (Nat.le_refl _))⟩
      have hcc : c ≤ 1048576 := by omega
      clear p HEA HAT hM hD hMA hM' hD' hbut hT hm hbA hc hnl v1 v2 v3
      generalize (es.take k).map (·.rn) = NS at *
      generalize es[k].rn = xa at *
      generalize es[k].nm = xc at *
      generalize es[k].bad = xd at *
      have hk0 : (0 : Int) ≤ k := by omega
      have hk1 : (k : Int) < es.length := by omega
      subst hWA
      go_wp2_with fail
      go_roundw
      case rel => exact ⟨k + 1, D', by omega, by go_num, HN.out.1, by rw [HTK.out]; exact HN.out.2.1, HN.out.2.2⟩
      case measure => simp [intOf]; omega
    · obtain rfl : k = es.length := by omega
      rw [List.take_of_length_le (Nat.le_refl _)] at hD
      have HM : Hid (TMap wr w.heap.size D ∧ CntD D (es.map (·.rn))) := ⟨hM, hD⟩
      clear hM hD HEA HAT
      go_wp2_with fail
      go_ret
      exact ⟨w.heap.size, D, rfl, HM.out.1, HM.out.2, hbe⟩

end Go.Proofs.YtllbfbllkefjeaaGreatDoor
