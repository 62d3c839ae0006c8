/-
  The walks of strings.Cut at a dot, and of impl.typeNameOk.
-/
import Derived.Test.YthomlchbgcjcfaaGreatDoorOwnI
import Derived.Test.YthomlchbgcjcfaaGreatDoorIndexLib
import Derived.Lib.IndexLaws
namespace Go.Proofs.YthomlchbgcjcfaaGreatDoor
open Go.RowKit

theorem byt_list (s : ByteArray) (k : Nat) (h : k < s.size) : s.data.toList[k]? = some 46 ↔ Lx.byt s k = 46 := by
  have hk : k < s.data.toList.length := h
  rw [List.getElem?_eq_getElem hk, ← Lx.byt_eq s k h, Option.some.injEq]
  have e : s.data.toList[k] = s[k] := by simp [ByteArray.getElem_eq_getElem_data]
  rw [e, ← UInt8.toNat_inj]
  rfl

theorem dot_none {s : ByteArray} (h : Lib.indexByte s.data.toList 46 = -1) (f i : Nat) : dotP s f i = none := by
  induction f generalizing i with
  | zero => rfl
  | succ f ih =>
    rw [dotP]
    by_cases hi : i < s.size
    · rw [if_pos hi, if_neg (fun e => Lib.indexByte_none h i ((byt_list s i hi).2 e)), ih]
    · rw [if_neg hi]
theorem dot_some {s : ByteArray} {o : Nat} (h : Lib.indexByte s.data.toList 46 = o) : o < s.size ∧ ∀ (d f : Nat), d ≤ o → o - d < f → dotP s f d = some o := by
  obtain ⟨h1, h2⟩ := Lib.indexByte_some h
  have ho : o < s.size := (List.getElem?_eq_some_iff.1 h1).1
  refine ⟨ho, ?_⟩
  intro d f hd hf
  induction f generalizing d with
  | zero => omega
  | succ f ih =>
    by_cases e : d = o
    · subst e
      exact dotP_hit ho ((byt_list s d ho).1 h1)
    · rw [dotP_skip (by omega) (fun hb => h2 d (by omega) ((byt_list s d (by omega)).2 hb))]
      exact ih (d + 1) (by omega) (by omega)

/-- what a text is cut into at its first dot -/
def cutP (s : ByteArray) : Value := match dotP s (s.size + 1) 0 with
  | some i => .tuple #[.string (s.extract 0 i), .string (s.extract (i + 1) s.size), .bool true]
  | none => .tuple #[.string s, .string ⟨#[]⟩, .bool false]

set_option maxHeartbeats 800000 in
set_option maxRecDepth 100000 in
theorem liteCut (s : ByteArray) (w : World) (hs : s.size ≤ 140737488355328) :
    Calls Tryz.prog 76 #[.string s, .string ⟨#[46]⟩] w fun e w' => e = .returned (cutP s) ∧ Below w.heap.size w w' := by
  have HI : Hid (Calls Tryz.prog 90 #[.string s, .string ⟨#[46]⟩] w fun e w' => e = .returned (.int .i64 (Lib.indexByte s.data.toList 46)) ∧ w' = w) := Tryz.stringslite_Index_one s 46 w
  have hge := Lib.indexByte_ge s.data.toList 46
  by_cases h : Lib.indexByte s.data.toList 46 = -1
  · have HR : Hid (cutP s = .tuple #[.string s, .string ⟨#[]⟩, .bool false]) := by show _ = _; unfold cutP; rw [dot_none h]
    rw [h] at HI
    clear hge h
    go_enter Tryz.func76, Tryz.ntmps76
    go_wp2_with fail
    refine HI.out.mono ?_
    rintro e w1 ⟨rfl, rfl⟩
    go_wp2_with fail
    go_ret3
    exact ⟨by rw [HR.out]; rfl, Below.refl _ _⟩
  · obtain ⟨o, ho⟩ : ∃ o : Nat, Lib.indexByte s.data.toList 46 = o := ⟨(Lib.indexByte s.data.toList 46).toNat, by omega⟩
    obtain ⟨h1, h2⟩ := dot_some ho
    have HR : Hid (cutP s = .tuple #[.string (s.extract 0 o), .string (s.extract (o + 1) s.size), .bool true]) := by show _ = _; unfold cutP; rw [h2 0 (s.size + 1) (by omega) (by omega)]
    rw [ho] at HI
    have hk0 : (0 : Int) ≤ (o : Int) := by omega
    have hk1 : (o : Int) ≤ (s.size : Int) := by omega
    have hk2 : (o : Int) + 1 ≤ (s.size : Int) := by omega
    clear hge h ho h2
    go_enter Tryz.func76, Tryz.ntmps76
    go_wp2_with fail
    refine HI.out.mono ?_
    rintro e w1 ⟨rfl, rfl⟩
    go_wp2_with fail
    go_quiet (fail)
    go_wp2_with fail
    go_ret3
    exact ⟨by rw [HR.out]; rfl, below_drewN (Below.refl _ _) _⟩

set_option maxHeartbeats 800000 in
set_option maxRecDepth 100000 in
theorem stringsCut (s : ByteArray) (w : World) (hs : s.size ≤ 140737488355328) :
    Calls Tryz.prog 53 #[.string s, .string ⟨#[46]⟩] w fun e w' => e = .returned (cutP s) ∧ Below w.heap.size w w' := by
  have HC0 := liteCut s w hs
  have HS : ∃ a b c, cutP s = .tuple #[.string a, .string b, .bool c] := by
    unfold cutP
    split
    · exact ⟨_, _, _, rfl⟩
    · exact ⟨_, _, _, rfl⟩
  obtain ⟨a, b, c, e⟩ := HS
  rw [e] at HC0 ⊢
  have HC : Hid (type_of% HC0) := HC0
  clear HC0 e
  go_enter Tryz.func53, Tryz.ntmps53
  go_wp2_with fail
  refine HC.out.mono ?_
  rintro e w1 ⟨rfl, hb1⟩
  go_wp2_with fail
  go_ret3
  exact ⟨rfl, hb1⟩

set_option maxHeartbeats 800000 in
set_option maxRecDepth 100000 in
theorem implTypeNameOk (s : ByteArray) (w : World) (hs : s.size ≤ 140737488355328) (hc : ClsIs w) (hcl : 1 < w.heap.size) :
    Calls Tryz.prog 37 #[.string s] w fun e w' => e = .returned (.bool (dottedP s)) ∧ Below w.heap.size w w' := by
  have HC0 := stringsCut s w hs
  have HN : Hid (∀ (x : ByteArray) (wx : World), Below w.heap.size w wx → x.size ≤ 140737488355328 → Calls Tryz.prog 54 #[.string x] wx fun e w' => e = .returned (.bool (Lx.nameOkP x)) ∧ Below wx.heap.size wx w') := fun x wx hx hxs => (implNameOk x wx hxs (hc.below hx hcl)).mono fun e w' h => ⟨h.1, by rw [← h.2]; exact Below.refl _ _⟩
  cases hd : dotP s (s.size + 1) 0 with
  | none =>
    have e1 : cutP s = .tuple #[.string s, .string ⟨#[]⟩, .bool false] := by unfold cutP; rw [hd]
    have HR : Hid (dottedP s = Lx.nameOkP s) := by show _ = _; unfold dottedP; rw [hd]
    rw [e1] at HC0
    have HC : Hid (type_of% HC0) := HC0
    clear HC0 e1 hd
    go_enter Tryz.func37, Tryz.ntmps37
    go_wp2_with fail
    refine HC.out.mono ?_
    rintro e w1 ⟨rfl, hb1⟩
    have H1 := HN.out s w1 hb1 hs
    have H12 : Hid (type_of% H1) := H1
    clear H1 HN
    generalize Lx.nameOkP s = R at *
    go_wp2_with fail
    refine H12.out.mono ?_
    rintro e w2 ⟨rfl, hb2⟩
    go_wp2_with fail
    go_ret
    exact ⟨by rw [HR.out]; rfl, hb1.trans (hb2.mono hb1.size)⟩
  | some i =>
    have e1 : cutP s = .tuple #[.string (s.extract 0 i), .string (s.extract (i + 1) s.size), .bool true] := by unfold cutP; rw [hd]
    have HR : Hid (dottedP s = (Lx.nameOkP (s.extract 0 i) && Lx.nameOkP (s.extract (i + 1) s.size))) := by show _ = _; unfold dottedP; rw [hd]
    rw [e1] at HC0
    have HC : Hid (type_of% HC0) := HC0
    have z1 : (s.extract 0 i).size ≤ 140737488355328 := by rw [ByteArray.size_extract]; omega
    have z2 : (s.extract (i + 1) s.size).size ≤ 140737488355328 := by rw [ByteArray.size_extract]; omega
    clear HC0 e1 hd
    generalize s.extract 0 i = A at *
    generalize s.extract (i + 1) s.size = B at *
    have H1 : Hid (∀ wx : World, Below w.heap.size w wx → Calls Tryz.prog 54 #[.string A] wx fun e w' => e = .returned (.bool (Lx.nameOkP A)) ∧ Below wx.heap.size wx w') := fun wx hx => HN.out A wx hx z1
    have H2 : Hid (∀ wx : World, Below w.heap.size w wx → Calls Tryz.prog 54 #[.string B] wx fun e w' => e = .returned (.bool (Lx.nameOkP B)) ∧ Below wx.heap.size wx w') := fun wx hx => HN.out B wx hx z2
    clear HN
    generalize Lx.nameOkP A = r1 at *
    generalize Lx.nameOkP B = r2 at *
    cases r1 with
    | false =>
      go_enter Tryz.func37, Tryz.ntmps37
      go_wp2_with fail
      refine HC.out.mono ?_
      rintro e w1 ⟨rfl, hb1⟩
      go_wp2_with fail
      refine (H1.out _ hb1).mono ?_
      rintro e w2 ⟨rfl, hb2⟩
      go_wp2_with fail
      go_ret
      exact ⟨by rw [HR.out]; rfl, hb1.trans (hb2.mono hb1.size)⟩
    | true =>
      go_enter Tryz.func37, Tryz.ntmps37
      go_wp2_with fail
      refine HC.out.mono ?_
      rintro e w1 ⟨rfl, hb1⟩
      go_wp2_with fail
      refine (H1.out _ hb1).mono ?_
      rintro e w2 ⟨rfl, hb2⟩
      have hb02 := hb1.trans (hb2.mono hb1.size)
      go_wp2_with fail
      refine (H2.out _ hb02).mono ?_
      rintro e w3 ⟨rfl, hb3⟩
      go_wp2_with fail
      go_ret
      exact ⟨by rw [HR.out]; rfl, hb02.trans (hb3.mono hb02.size)⟩

end Go.Proofs.YthomlchbgcjcfaaGreatDoor
