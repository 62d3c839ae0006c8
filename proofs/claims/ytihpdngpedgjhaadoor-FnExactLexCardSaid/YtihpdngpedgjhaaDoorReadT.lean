/-
  The walk of impl.readWord: the word that begins at a place, and the place behind it; or a panic that bears the line.
-/
import Derived.Test.YtihpdngpedgjhaaDoorReadW
import Derived.Test.YtihpdngpedgjhaaDoorCloneLib
namespace Go.Proofs.YtihpdngpedgjhaaDoor
open Go.RowKit

def tokC (t : Lx.Tok) : List Value := [.int .i64 (t.kind : Nat), .string t.text, .int .i64 (t.n : Nat), .int .i64 (t.line : Nat)]
def tokV (t : Lx.Tok) : Value := .agg #[.int .i64 (t.kind : Nat), .string t.text, .int .i64 (t.n : Nat), .int .i64 (t.line : Nat)]

theorem bcell {W w1 : World} (hb : Below W.heap.size W w1) : (∀ b o, b < W.heap.size → w1.cell? ⟨b, o, none⟩ = W.cell? ⟨b, o, none⟩) ∧ (∀ b o, b < W.heap.size → w1.frozen? ⟨b, o, none⟩ = W.frozen? ⟨b, o, none⟩) :=
  ⟨fun b o h => hb.cell (p := ⟨b, o, none⟩) h, fun b o h => hb.frozen (p := ⟨b, o, none⟩) h⟩

theorem run_cut (s : ByteArray) (i k : Nat) (h : i ≤ k) (hk : k ≤ s.size) (wx : World) : (Instr.slice 9 (.string s) (some (.int .i64 (i : Int))) (some (.int .i64 (k : Int))) none).run Tryd.prog wx = .ok (.string (s.extract i k)) wx := by
  rw [run_slice_string (P := Tryd.prog) wx 9 s .i64 .i64 (i : Int) (k : Int) Tryd.underlying9 (by omega) (by omega) (by omega)]
  simp

theorem put4 {w0 : World} {b : Nat} {x0 x1 x2 x3 : Value} (h : ∀ j, j < 4 → (w0.cell? ⟨b, j, none⟩).isSome = true) :
    ((((w0.setCell ⟨b, 0, none⟩ x0).setCell ⟨b, 1, none⟩ x1).setCell ⟨b, 2, none⟩ x2).setCell ⟨b, 3, none⟩ x3).cell? ⟨b, 0, none⟩ = some x0 ∧
    ((((w0.setCell ⟨b, 0, none⟩ x0).setCell ⟨b, 1, none⟩ x1).setCell ⟨b, 2, none⟩ x2).setCell ⟨b, 3, none⟩ x3).cell? ⟨b, 1, none⟩ = some x1 ∧
    ((((w0.setCell ⟨b, 0, none⟩ x0).setCell ⟨b, 1, none⟩ x1).setCell ⟨b, 2, none⟩ x2).setCell ⟨b, 3, none⟩ x3).cell? ⟨b, 2, none⟩ = some x2 ∧
    ((((w0.setCell ⟨b, 0, none⟩ x0).setCell ⟨b, 1, none⟩ x1).setCell ⟨b, 2, none⟩ x2).setCell ⟨b, 3, none⟩ x3).cell? ⟨b, 3, none⟩ = some x3 := by
  have o : ∀ (w : World) (v : Value) (j k : Nat), j ≠ k → (w.setCell ⟨b, j, none⟩ v).cell? ⟨b, k, none⟩ = w.cell? ⟨b, k, none⟩ := fun w v j k hjk => World.cell?_setCell_other w _ _ v (fun e => hjk (by cases e; rfl))
  refine ⟨?_, ?_, ?_, ?_⟩
  · rw [o _ _ 3 0 (by decide), o _ _ 2 0 (by decide), o _ _ 1 0 (by decide)]
    exact World.cell?_setCell_same' _ _ _ (h 0 (by decide))
  · rw [o _ _ 3 1 (by decide), o _ _ 2 1 (by decide)]
    exact World.cell?_setCell_same' _ _ _ (by rw [o _ _ 0 1 (by decide)]; exact h 1 (by decide))
  · rw [o _ _ 3 2 (by decide)]
    exact World.cell?_setCell_same' _ _ _ (by rw [o _ _ 1 2 (by decide), o _ _ 0 2 (by decide)]; exact h 2 (by decide))
  · exact World.cell?_setCell_same' _ _ _ (by rw [o _ _ 2 3 (by decide), o _ _ 1 3 (by decide), o _ _ 0 3 (by decide)]; exact h 3 (by decide))

theorem ret_tok {B : Nat} {w w0 : World} {tmps : Array Value} {b E : Nat} {t : Lx.Tok} (hp : tmps[6]?.getD undef = .pointer (some ⟨b, 0, none⟩)) (hE : tmps[7]?.getD undef = .int .i64 (E : Nat))
    (h : ∀ j, j < 4 → (w0.cell? ⟨b, j, none⟩).isSome = true) (hBe : Below B w w0) (hb : B ≤ b) :
    bodyPost Tryd.prog Tryd.f29 (fun e w' => e = .returned (.tuple #[tokV t, .int .i64 (E : Nat)]) ∧ Below B w w') .ret { tmps := tmps, defers := [] }
      ((((w0.setCell ⟨b, 0, none⟩ (.int .i64 (t.kind : Nat))).setCell ⟨b, 1, none⟩ (.string t.text)).setCell ⟨b, 2, none⟩ (.int .i64 (t.n : Nat))).setCell ⟨b, 3, none⟩ (.int .i64 (t.line : Nat))) := by
  obtain ⟨h0, h1, h2, h3⟩ := put4 (x0 := .int .i64 (t.kind : Nat)) (x1 := .string t.text) (x2 := .int .i64 (t.n : Nat)) (x3 := .int .i64 (t.line : Nat)) h
  have hB4 := (((hBe.setCell (p := ⟨b, 0, none⟩) hb (.int .i64 (t.kind : Nat))).setCell (p := ⟨b, 1, none⟩) hb (.string t.text)).setCell (p := ⟨b, 2, none⟩) hb (.int .i64 (t.n : Nat))).setCell (p := ⟨b, 3, none⟩) hb (.int .i64 (t.line : Nat))
  generalize (((w0.setCell ⟨b, 0, none⟩ (.int .i64 (t.kind : Nat))).setCell ⟨b, 1, none⟩ (.string t.text)).setCell ⟨b, 2, none⟩ (.int .i64 (t.n : Nat))).setCell ⟨b, 3, none⟩ (.int .i64 (t.line : Nat)) = W at *
  refine bodyPost_ret (v := .tuple #[tokV t, .int .i64 (E : Nat)]) ?_ rfl ⟨rfl, hB4⟩
  simp [results, Tryd.results29, go_sem, hp, hE, h0, h1, h2, h3, tokV]

theorem old4 {w w1 : World} {x y : Array Value} {t : TypeId} (hx : x.size = 4) (hb1 : Below ((w.alloc (.cells x t)).alloc (.cells y t)).heap.size ((w.alloc (.cells x t)).alloc (.cells y t)) w1) : ∀ j, j < 4 → (w1.cell? ⟨w.heap.size, j, none⟩).isSome = true := fun j hj => by
  rw [hb1.cell (p := ⟨w.heap.size, j, none⟩) (by simp; omega)]
  have : j < x.size := by omega
  simp [this]

set_option maxHeartbeats 800000 in
theorem readLetter (s : ByteArray) (i line E : Nat) (w : World) (hs : s.size ≤ 3000) (hi : i < s.size) (hc : ClsIs w) (hL : Lx.letterB (Lx.byt s i) = true) (hE : Lx.endP Lx.alB s i = E) (h12 : E - i ≤ 12) :
    Calls Tryd.prog 29 #[.string s, .int .i64 i, .int .i64 line] w fun e w' => e = .returned (.tuple #[tokV ⟨if Lx.isWordP (s.extract i E) then 4 else 0, s.extract i E, 0, line⟩, .int .i64 E]) ∧ Below w.heap.size w w' := by
  have hge := Lx.endP_ge Lx.alB s i
  have hle := Lx.endP_le Lx.alB s i (by omega)
  rw [hE] at hge hle
  have hbe := Lx.byt_eq s i hi
  have HC : Hid (∀ wx : World, Below w.heap.size w wx → Calls Tryd.prog 17 #[.int .u8 (Lx.byt s i : Nat)] wx fun e w' => e = .returned (.int .u8 4) ∧ wx = w') := fun wx hb => by
    have := implClassOf (Lx.byt s i) wx (Lx.byt_lt s i) (hc.below hb hc.lt)
    rw [(cls4 _).2 hL] at this
    exact this
  have HE : Hid (∀ wx : World, Below w.heap.size w wx → Calls Tryd.prog 18 #[.string s, .int .i64 i] wx fun e w' => e = .returned (.int .i64 E) ∧ wx = w') := fun wx hb => by
    have := implNameEnd s i wx (by omega) (by omega) (hc.below hb hc.lt)
    rw [hE] at this
    exact this
  have HR : Hid (∀ wx : World, Calls Tryd.prog 34 #[.int .i64 ((E : Int) - i), .int .i64 12, .int .i64 line] wx fun e w' => e = .returned (.tuple #[]) ∧ wx = w') := fun wx => implRefuse_no _ _ line wx (by omega)
  have hsl := run_cut s i E hge hle
  have hz : (s.extract i E).size = E - i := by simp; omega
  have HK : Hid (∀ wx : World, Calls Tryd.prog 35 #[.string (s.extract i E)] wx fun e w' => e = .returned (.int .i64 (if Lx.isWordP (s.extract i E) then 4 else 0 : Nat)) ∧ wx = w') := fun wx => implNameKind _ wx
  have HL : Hid (∀ wx : World, Calls Tryd.prog 36 #[.string (s.extract i E)] wx fun e w' => e = .returned (.string (s.extract i E)) ∧ Below wx.heap.size wx w') := fun wx => stringsClone _ wx (by omega)
  generalize (if Lx.isWordP (s.extract i E) then 4 else 0 : Nat) = K at *
  generalize s.extract i E = T at *
  clear hL hc hz hE
  go_enter Tryd.func29, Tryd.ntmps29
  go_wp2_with fail
  refine (HC.out _ ?_).mono ?_
  · exact ((Below.refl _ _).alloc (Nat.le_refl _) _).alloc (by simp) _
  rintro e w1 ⟨rfl, rfl⟩
  go_wp2_with fail
  refine (HE.out _ ?_).mono ?_
  · exact ((Below.refl _ _).alloc (Nat.le_refl _) _).alloc (by simp) _
  rintro e w1 ⟨rfl, rfl⟩
  go_wp2_with fail
  refine (HR.out _).mono ?_
  rintro e w1 ⟨rfl, rfl⟩
  go_wp2_with fail
  refine (HK.out _).mono ?_
  rintro e w1 ⟨rfl, rfl⟩
  go_wp2_with fail
  refine (HL.out _).mono ?_
  rintro e w1 ⟨rfl, hb1⟩
  obtain ⟨bc, bf⟩ := bcell hb1
  have hsz : w.heap.size + 1 < w1.heap.size := by have := hb1.size; simp at this; omega
  go_wp2
  refine ret_tok (t := ⟨K, T, 0, line⟩) (b := w.heap.size) (E := E) rfl rfl ?_ ?_ (Nat.le_refl _)
  · intro j hj
    rw [World.cell?_setCell_other _ _ _ _ (by simp)]
    exact old4 (by rfl) hb1 j hj
  · exact ((((Below.refl _ _).alloc (Nat.le_refl _) _).alloc (by simp) _).trans (hb1.mono (by simp; omega))).setCell (by simp) _

set_option maxHeartbeats 800000 in
theorem readLetter_no (s : ByteArray) (i line E : Nat) (w : World) (hs : s.size ≤ 3000) (hi : i < s.size) (hc : ClsIs w) (hL : Lx.letterB (Lx.byt s i) = true) (hE : Lx.endP Lx.alB s i = E) (h12 : 12 < E - i) :
    Calls Tryd.prog 29 #[.string s, .int .i64 i, .int .i64 line] w fun e w' => e = noWordE line ∧ Below w.heap.size w w' := by
  have hge := Lx.endP_ge Lx.alB s i
  have hle := Lx.endP_le Lx.alB s i (by omega)
  rw [hE] at hge hle
  have hbe := Lx.byt_eq s i hi
  have HC : Hid (∀ wx : World, Below w.heap.size w wx → Calls Tryd.prog 17 #[.int .u8 (Lx.byt s i : Nat)] wx fun e w' => e = .returned (.int .u8 4) ∧ wx = w') := fun wx hb => by
    have := implClassOf (Lx.byt s i) wx (Lx.byt_lt s i) (hc.below hb hc.lt)
    rw [(cls4 _).2 hL] at this
    exact this
  have HE : Hid (∀ wx : World, Below w.heap.size w wx → Calls Tryd.prog 18 #[.string s, .int .i64 i] wx fun e w' => e = .returned (.int .i64 E) ∧ wx = w') := fun wx hb => by
    have := implNameEnd s i wx (by omega) (by omega) (hc.below hb hc.lt)
    rw [hE] at this
    exact this
  have HR : Hid (∀ wx : World, Calls Tryd.prog 34 #[.int .i64 ((E : Int) - i), .int .i64 12, .int .i64 line] wx fun e w' => e = .panicked [{ v := .iface 49 (.agg #[.int .i64 (line : Nat)]), recovered := false }] ∧ Below wx.heap.size wx w') := fun wx => implRefuse_yes _ _ line wx (by omega)
  clear hL hc hE
  go_enter Tryd.func29, Tryd.ntmps29
  go_wp2_with fail
  refine (HC.out _ ?_).mono ?_
  · exact ((Below.refl _ _).alloc (Nat.le_refl _) _).alloc (by simp) _
  rintro e w1 ⟨rfl, rfl⟩
  go_wp2_with fail
  refine (HE.out _ ?_).mono ?_
  · exact ((Below.refl _ _).alloc (Nat.le_refl _) _).alloc (by simp) _
  rintro e w1 ⟨rfl, rfl⟩
  go_wp2_with fail
  refine (HR.out _).mono ?_
  rintro e w1 ⟨rfl, hb1⟩
  go_wp2
  exact ⟨rfl, rfl, (((Below.refl _ _).alloc (Nat.le_refl _) _).alloc (by simp) _).trans (hb1.mono (by simp; omega))⟩

set_option maxHeartbeats 800000 in
theorem readDigit_no (s : ByteArray) (i line E : Nat) (w : World) (hs : s.size ≤ 3000) (hi : i < s.size) (hc : ClsIs w) (hL : Lx.digitB (Lx.byt s i) = true) (hE : Lx.endP Lx.digitB s i = E) (h9 : 9 < E - i) :
    Calls Tryd.prog 29 #[.string s, .int .i64 i, .int .i64 line] w fun e w' => e = noWordE line ∧ Below w.heap.size w w' := by
  have hge := Lx.endP_ge Lx.digitB s i
  have hle := Lx.endP_le Lx.digitB s i (by omega)
  rw [hE] at hge hle
  have hbe := Lx.byt_eq s i hi
  have HC : Hid (∀ wx : World, Below w.heap.size w wx → Calls Tryd.prog 17 #[.int .u8 (Lx.byt s i : Nat)] wx fun e w' => e = .returned (.int .u8 5) ∧ wx = w') := fun wx hb => by
    have := implClassOf (Lx.byt s i) wx (Lx.byt_lt s i) (hc.below hb hc.lt)
    rw [(cls5 _).2 hL] at this
    exact this
  have HE : Hid (∀ wx : World, Below w.heap.size w wx → Calls Tryd.prog 37 #[.string s, .int .i64 i] wx fun e w' => e = .returned (.int .i64 E) ∧ wx = w') := fun wx hb => by
    have := implDigitsEnd s i wx (by omega) (by omega) (hc.below hb hc.lt)
    rw [hE] at this
    exact this
  have HR : Hid (∀ wx : World, Calls Tryd.prog 34 #[.int .i64 ((E : Int) - i), .int .i64 9, .int .i64 line] wx fun e w' => e = .panicked [{ v := .iface 49 (.agg #[.int .i64 (line : Nat)]), recovered := false }] ∧ Below wx.heap.size wx w') := fun wx => implRefuse_yes _ _ line wx (by omega)
  clear hL hc hE
  go_enter Tryd.func29, Tryd.ntmps29
  go_wp2_with fail
  refine (HC.out _ ?_).mono ?_
  · exact ((Below.refl _ _).alloc (Nat.le_refl _) _).alloc (by simp) _
  rintro e w1 ⟨rfl, rfl⟩
  go_wp2_with fail
  refine (HE.out _ ?_).mono ?_
  · exact ((Below.refl _ _).alloc (Nat.le_refl _) _).alloc (by simp) _
  rintro e w1 ⟨rfl, rfl⟩
  go_wp2_with fail
  refine (HR.out _).mono ?_
  rintro e w1 ⟨rfl, hb1⟩
  go_wp2
  exact ⟨rfl, rfl, (((Below.refl _ _).alloc (Nat.le_refl _) _).alloc (by simp) _).trans (hb1.mono (by simp; omega))⟩

set_option maxHeartbeats 800000 in
theorem readDigit (s : ByteArray) (i line E : Nat) (w : World) (hs : s.size ≤ 3000) (hi : i < s.size) (hc : ClsIs w) (hL : Lx.digitB (Lx.byt s i) = true) (hE : Lx.endP Lx.digitB s i = E) (h9 : E - i ≤ 9) :
    Calls Tryd.prog 29 #[.string s, .int .i64 i, .int .i64 line] w fun e w' => e = .returned (.tuple #[tokV ⟨1, ByteArray.empty, Lx.numP s i (E - i), line⟩, .int .i64 E]) ∧ Below w.heap.size w w' := by
  have hge := Lx.endP_ge Lx.digitB s i
  have hle := Lx.endP_le Lx.digitB s i (by omega)
  rw [hE] at hge hle
  have hbe := Lx.byt_eq s i hi
  have HC : Hid (∀ wx : World, Below w.heap.size w wx → Calls Tryd.prog 17 #[.int .u8 (Lx.byt s i : Nat)] wx fun e w' => e = .returned (.int .u8 5) ∧ wx = w') := fun wx hb => by
    have := implClassOf (Lx.byt s i) wx (Lx.byt_lt s i) (hc.below hb hc.lt)
    rw [(cls5 _).2 hL] at this
    exact this
  have HE : Hid (∀ wx : World, Below w.heap.size w wx → Calls Tryd.prog 37 #[.string s, .int .i64 i] wx fun e w' => e = .returned (.int .i64 E) ∧ wx = w') := fun wx hb => by
    have := implDigitsEnd s i wx (by omega) (by omega) (hc.below hb hc.lt)
    rw [hE] at this
    exact this
  have HR : Hid (∀ wx : World, Calls Tryd.prog 34 #[.int .i64 ((E : Int) - i), .int .i64 9, .int .i64 line] wx fun e w' => e = .returned (.tuple #[]) ∧ wx = w') := fun wx => implRefuse_no _ _ line wx (by omega)
  have hsl := run_cut s i E hge hle
  have hz : (s.extract i E).size = E - i := by simp; omega
  have HN : Hid (∀ wx : World, Calls Tryd.prog 38 #[.string (s.extract i E)] wx fun e w' => e = .returned (.int .i64 (Lx.numP s i (E - i) : Nat)) ∧ wx = w') := fun wx => by
    have h1 := implNumberOf (s.extract i E) wx (by omega) (fun j hj => by
      rw [byt_extract s i E j (by omega) hle]
      exact Lx.endP_in Lx.digitB s i (i + j) (by omega) (by omega))
    have h2 := numP_extract s i (E - i) (by omega) (E - i) (Nat.le_refl _)
    rw [show i + (E - i) = E from by omega] at h2
    rw [hz, h2] at h1
    exact h1
  generalize Lx.numP s i (E - i) = K at *
  generalize s.extract i E = T at *
  clear hL hc hz hE
  go_enter Tryd.func29, Tryd.ntmps29
  go_wp2_with fail
  refine (HC.out _ ?_).mono ?_
  · exact ((Below.refl _ _).alloc (Nat.le_refl _) _).alloc (by simp) _
  rintro e w1 ⟨rfl, rfl⟩
  go_wp2_with fail
  refine (HE.out _ ?_).mono ?_
  · exact ((Below.refl _ _).alloc (Nat.le_refl _) _).alloc (by simp) _
  rintro e w1 ⟨rfl, rfl⟩
  go_wp2_with fail
  refine (HR.out _).mono ?_
  rintro e w1 ⟨rfl, rfl⟩
  go_wp2_with fail
  refine (HN.out _).mono ?_
  rintro e w1 ⟨rfl, rfl⟩
  go_wp2
  refine bodyPost_ret (v := .tuple #[tokV ⟨1, ByteArray.empty, K, line⟩, .int .i64 (E : Nat)]) ?_ rfl ⟨rfl, ?_⟩
  · simp [results, Tryd.results29, go_sem, tokV]
    rfl
  · exact ((Below.refl _ _).alloc (Nat.le_refl _) _).alloc (by simp) _

set_option maxHeartbeats 800000 in
theorem readQuote_no (s : ByteArray) (i line : Nat) (w : World) (hs : s.size ≤ 3000) (hi : i < s.size) (hc : ClsIs w) (hL : Lx.byt s i = 34) (h : ¬ (Lx.endP Lx.textB s (i + 1) < s.size ∧ Lx.byt s (Lx.endP Lx.textB s (i + 1)) = 34)) :
    Calls Tryd.prog 29 #[.string s, .int .i64 i, .int .i64 line] w fun e w' => e = noWordE line ∧ Below w.heap.size w w' := by
  have hbe := Lx.byt_eq s i hi
  have HC : Hid (∀ wx : World, Below w.heap.size w wx → Calls Tryd.prog 17 #[.int .u8 (Lx.byt s i : Nat)] wx fun e w' => e = .returned (.int .u8 6) ∧ wx = w') := fun wx hb => by
    have := implClassOf (Lx.byt s i) wx (Lx.byt_lt s i) (hc.below hb hc.lt)
    rw [show Lx.cls (Lx.byt s i) = 6 from by rw [hL]; rfl] at this
    exact this
  have HQ : Hid (∀ wx : World, Calls Tryd.prog 39 #[.string s, .int .i64 i, .int .i64 line] wx fun e w' => e = .panicked [{ v := .iface 49 (.agg #[.int .i64 (line : Nat)]), recovered := false }] ∧ Below wx.heap.size wx w') := fun wx => implQuote_no s i line wx (by omega) hi h
  clear hL hc h
  go_enter Tryd.func29, Tryd.ntmps29
  go_wp2_with fail
  refine (HC.out _ ?_).mono ?_
  · exact ((Below.refl _ _).alloc (Nat.le_refl _) _).alloc (by simp) _
  rintro e w1 ⟨rfl, rfl⟩
  go_wp2_with fail
  refine (HQ.out _).mono ?_
  rintro e w1 ⟨rfl, hb1⟩
  go_wp2
  exact ⟨rfl, rfl, (((Below.refl _ _).alloc (Nat.le_refl _) _).alloc (by simp) _).trans (hb1.mono (by simp; omega))⟩

set_option maxHeartbeats 800000 in
theorem readQuote (s : ByteArray) (i line E : Nat) (w : World) (hs : s.size ≤ 3000) (hi : i < s.size) (hc : ClsIs w) (hL : Lx.byt s i = 34) (hE : Lx.endP Lx.textB s (i + 1) = E) (h1 : E < s.size) (h2 : Lx.byt s E = 34) :
    Calls Tryd.prog 29 #[.string s, .int .i64 i, .int .i64 line] w fun e w' => e = .returned (.tuple #[tokV ⟨2, s.extract (i + 1) E, 0, line⟩, .int .i64 ((E + 1 : Nat) : Int)]) ∧ Below w.heap.size w w' := by
  have hge := Lx.endP_ge Lx.textB s (i + 1)
  rw [hE] at hge
  have hbe := Lx.byt_eq s i hi
  have HC : Hid (∀ wx : World, Below w.heap.size w wx → Calls Tryd.prog 17 #[.int .u8 (Lx.byt s i : Nat)] wx fun e w' => e = .returned (.int .u8 6) ∧ wx = w') := fun wx hb => by
    have := implClassOf (Lx.byt s i) wx (Lx.byt_lt s i) (hc.below hb hc.lt)
    rw [show Lx.cls (Lx.byt s i) = 6 from by rw [hL]; rfl] at this
    exact this
  have HQ : Hid (∀ wx : World, Calls Tryd.prog 39 #[.string s, .int .i64 i, .int .i64 line] wx fun e w' => e = .returned (.int .i64 ((E : Int) + 1)) ∧ wx = w') := fun wx => by
    have := implQuote_yes s i line wx (by omega) hi (by omega) (by rw [hE]; exact h2)
    rw [hE] at this
    exact this
  have hsl : ∀ wx : World, (Instr.slice 9 (.string s) (some (.int .i64 ((i : Int) + 1))) (some (.int .i64 (E : Int))) none).run Tryd.prog wx = .ok (.string (s.extract (i + 1) E)) wx := fun wx => run_cut s (i + 1) E hge (by omega) wx
  have hz : (s.extract (i + 1) E).size = E - (i + 1) := by simp; omega
  have HL : Hid (∀ wx : World, Calls Tryd.prog 36 #[.string (s.extract (i + 1) E)] wx fun e w' => e = .returned (.string (s.extract (i + 1) E)) ∧ Below wx.heap.size wx w') := fun wx => stringsClone _ wx (by omega)
  generalize s.extract (i + 1) E = T at *
  clear hL hc hz hE h2
  go_enter Tryd.func29, Tryd.ntmps29
  go_wp2_with fail
  refine (HC.out _ ?_).mono ?_
  · exact ((Below.refl _ _).alloc (Nat.le_refl _) _).alloc (by simp) _
  rintro e w1 ⟨rfl, rfl⟩
  go_wp2_with fail
  refine (HQ.out _).mono ?_
  rintro e w1 ⟨rfl, rfl⟩
  go_wp2_with fail
  refine (HL.out _).mono ?_
  rintro e w1 ⟨rfl, hb1⟩
  obtain ⟨bc, bf⟩ := bcell hb1
  have hsz : w.heap.size + 1 < w1.heap.size := by have := hb1.size; simp at this; omega
  go_wp2
  refine ret_tok (t := ⟨2, T, 0, line⟩) (b := w.heap.size) (E := E + 1) rfl (by rfl) ?_ ?_ (Nat.le_refl _)
  · intro j hj
    rw [World.cell?_setCell_other _ _ _ _ (by simp)]
    exact old4 (by rfl) hb1 j hj
  · exact ((((Below.refl _ _).alloc (Nat.le_refl _) _).alloc (by simp) _).trans (hb1.mono (by simp; omega))).setCell (by simp) _

set_option maxHeartbeats 800000 in
theorem readSign_no (s : ByteArray) (i line : Nat) (w : World) (hs : s.size ≤ 3000) (hi : i < s.size) (hc : ClsIs w) (hL : Lx.byt s i = 45) (h2 : Lx.twoB s i = false) :
    Calls Tryd.prog 29 #[.string s, .int .i64 i, .int .i64 line] w fun e w' => e = noWordE line ∧ Below w.heap.size w w' := by
  have hbe := Lx.byt_eq s i hi
  have HC : Hid (∀ wx : World, Below w.heap.size w wx → Calls Tryd.prog 17 #[.int .u8 (Lx.byt s i : Nat)] wx fun e w' => e = .returned (.int .u8 7) ∧ wx = w') := fun wx hb => by
    have := implClassOf (Lx.byt s i) wx (Lx.byt_lt s i) (hc.below hb hc.lt)
    rw [show Lx.cls (Lx.byt s i) = 7 from by rw [hL]; rfl] at this
    exact this
  have HQ : Hid (∀ wx : World, Calls Tryd.prog 40 #[.string s, .int .i64 i, .int .i64 line] wx fun e w' => e = .panicked [{ v := .iface 49 (.agg #[.int .i64 (line : Nat)]), recovered := false }] ∧ wx = w') := fun wx => (implSign s i line wx (by omega) hi).mono fun e w' h => by
    rw [h2, if_neg (by simp), if_pos hL] at h
    exact h
  clear hL hc h2
  go_enter Tryd.func29, Tryd.ntmps29
  go_wp2_with fail
  refine (HC.out _ ?_).mono ?_
  · exact ((Below.refl _ _).alloc (Nat.le_refl _) _).alloc (by simp) _
  rintro e w1 ⟨rfl, rfl⟩
  go_wp2_with fail
  refine (HQ.out _).mono ?_
  rintro e w1 ⟨rfl, rfl⟩
  go_wp2
  exact ⟨rfl, rfl, ((Below.refl _ _).alloc (Nat.le_refl _) _).alloc (by simp) _⟩

set_option maxHeartbeats 800000 in
theorem readSign2 (s : ByteArray) (i line : Nat) (w : World) (hs : s.size ≤ 3000) (hi : i < s.size) (hc : ClsIs w) (hL : Lx.cls (Lx.byt s i) = 7) (h2 : Lx.twoB s i = true) :
    Calls Tryd.prog 29 #[.string s, .int .i64 i, .int .i64 line] w fun e w' => e = .returned (.tuple #[tokV ⟨3, s.extract i (i + 2), 0, line⟩, .int .i64 ((i + 2 : Nat) : Int)]) ∧ Below w.heap.size w w' := by
  have hlt : i + 1 < s.size := by simp only [Lx.twoB, decide_eq_true_eq] at h2; exact h2.1
  have hbe := Lx.byt_eq s i hi
  have HC : Hid (∀ wx : World, Below w.heap.size w wx → Calls Tryd.prog 17 #[.int .u8 (Lx.byt s i : Nat)] wx fun e w' => e = .returned (.int .u8 7) ∧ wx = w') := fun wx hb => by
    have := implClassOf (Lx.byt s i) wx (Lx.byt_lt s i) (hc.below hb hc.lt)
    rw [hL] at this
    exact this
  have HQ : Hid (∀ wx : World, Calls Tryd.prog 40 #[.string s, .int .i64 i, .int .i64 line] wx fun e w' => e = .returned (.int .i64 ((i : Int) + 2)) ∧ wx = w') := fun wx => (implSign s i line wx (by omega) hi).mono fun e w' h => by
    rw [h2, if_pos rfl] at h
    exact h
  have hsl : ∀ wx : World, (Instr.slice 9 (.string s) (some (.int .i64 (i : Int))) (some (.int .i64 ((i : Int) + 2))) none).run Tryd.prog wx = .ok (.string (s.extract i (i + 2))) wx := fun wx => run_cut s i (i + 2) (by omega) (by omega) wx
  have hz : (s.extract i (i + 2)).size = 2 := by simp; omega
  have HL : Hid (∀ wx : World, Calls Tryd.prog 36 #[.string (s.extract i (i + 2))] wx fun e w' => e = .returned (.string (s.extract i (i + 2))) ∧ Below wx.heap.size wx w') := fun wx => stringsClone _ wx (by omega)
  generalize s.extract i (i + 2) = T at *
  clear hL hc hz h2
  go_enter Tryd.func29, Tryd.ntmps29
  go_wp2_with fail
  refine (HC.out _ ?_).mono ?_
  · exact ((Below.refl _ _).alloc (Nat.le_refl _) _).alloc (by simp) _
  rintro e w1 ⟨rfl, rfl⟩
  go_wp2_with fail
  refine (HQ.out _).mono ?_
  rintro e w1 ⟨rfl, rfl⟩
  go_wp2_with fail
  refine (HL.out _).mono ?_
  rintro e w1 ⟨rfl, hb1⟩
  obtain ⟨bc, bf⟩ := bcell hb1
  have hsz : w.heap.size + 1 < w1.heap.size := by have := hb1.size; simp at this; omega
  go_wp2
  refine ret_tok (t := ⟨3, T, 0, line⟩) (b := w.heap.size) (E := i + 2) rfl (by rfl) ?_ ?_ (Nat.le_refl _)
  · intro j hj
    rw [World.cell?_setCell_other _ _ _ _ (by simp)]
    exact old4 (by rfl) hb1 j hj
  · exact ((((Below.refl _ _).alloc (Nat.le_refl _) _).alloc (by simp) _).trans (hb1.mono (by simp; omega))).setCell (by simp) _

set_option maxHeartbeats 800000 in
theorem readSign1 (s : ByteArray) (i line : Nat) (w : World) (hs : s.size ≤ 3000) (hi : i < s.size) (hc : ClsIs w) (hL : Lx.cls (Lx.byt s i) = 7) (h2 : Lx.twoB s i = false) (h45 : ¬ Lx.byt s i = 45) :
    Calls Tryd.prog 29 #[.string s, .int .i64 i, .int .i64 line] w fun e w' => e = .returned (.tuple #[tokV ⟨3, s.extract i (i + 1), 0, line⟩, .int .i64 ((i + 1 : Nat) : Int)]) ∧ Below w.heap.size w w' := by
  have hbe := Lx.byt_eq s i hi
  have HC : Hid (∀ wx : World, Below w.heap.size w wx → Calls Tryd.prog 17 #[.int .u8 (Lx.byt s i : Nat)] wx fun e w' => e = .returned (.int .u8 7) ∧ wx = w') := fun wx hb => by
    have := implClassOf (Lx.byt s i) wx (Lx.byt_lt s i) (hc.below hb hc.lt)
    rw [hL] at this
    exact this
  have HQ : Hid (∀ wx : World, Calls Tryd.prog 40 #[.string s, .int .i64 i, .int .i64 line] wx fun e w' => e = .returned (.int .i64 ((i : Int) + 1)) ∧ wx = w') := fun wx => (implSign s i line wx (by omega) hi).mono fun e w' h => by
    rw [h2, if_neg (by simp), if_neg h45] at h
    exact h
  have hsl : ∀ wx : World, (Instr.slice 9 (.string s) (some (.int .i64 (i : Int))) (some (.int .i64 ((i : Int) + 1))) none).run Tryd.prog wx = .ok (.string (s.extract i (i + 1))) wx := fun wx => run_cut s i (i + 1) (by omega) (by omega) wx
  have hz : (s.extract i (i + 1)).size = 1 := by simp; omega
  have HL : Hid (∀ wx : World, Calls Tryd.prog 36 #[.string (s.extract i (i + 1))] wx fun e w' => e = .returned (.string (s.extract i (i + 1))) ∧ Below wx.heap.size wx w') := fun wx => stringsClone _ wx (by omega)
  generalize s.extract i (i + 1) = T at *
  clear hL hc hz h2 h45
  go_enter Tryd.func29, Tryd.ntmps29
  go_wp2_with fail
  refine (HC.out _ ?_).mono ?_
  · exact ((Below.refl _ _).alloc (Nat.le_refl _) _).alloc (by simp) _
  rintro e w1 ⟨rfl, rfl⟩
  go_wp2_with fail
  refine (HQ.out _).mono ?_
  rintro e w1 ⟨rfl, rfl⟩
  go_wp2_with fail
  refine (HL.out _).mono ?_
  rintro e w1 ⟨rfl, hb1⟩
  obtain ⟨bc, bf⟩ := bcell hb1
  have hsz : w.heap.size + 1 < w1.heap.size := by have := hb1.size; simp at this; omega
  go_wp2
  refine ret_tok (t := ⟨3, T, 0, line⟩) (b := w.heap.size) (E := i + 1) rfl (by rfl) ?_ ?_ (Nat.le_refl _)
  · intro j hj
    rw [World.cell?_setCell_other _ _ _ _ (by simp)]
    exact old4 (by rfl) hb1 j hj
  · exact ((((Below.refl _ _).alloc (Nat.le_refl _) _).alloc (by simp) _).trans (hb1.mono (by simp; omega))).setCell (by simp) _

set_option maxHeartbeats 800000 in
theorem readNone (s : ByteArray) (i line : Nat) (w : World) (hi : i < s.size) (hc : ClsIs w) (h4 : Lx.cls (Lx.byt s i) ≠ 4) (h5 : Lx.cls (Lx.byt s i) ≠ 5) (h6 : Lx.cls (Lx.byt s i) ≠ 6) (h7 : Lx.cls (Lx.byt s i) ≠ 7) :
    Calls Tryd.prog 29 #[.string s, .int .i64 i, .int .i64 line] w fun e w' => e = noWordE line ∧ Below w.heap.size w w' := by
  have hbe := Lx.byt_eq s i hi
  have HC : Hid (∀ wx : World, Below w.heap.size w wx → Calls Tryd.prog 17 #[.int .u8 (Lx.byt s i : Nat)] wx fun e w' => e = .returned (.int .u8 (Lx.cls (Lx.byt s i) : Nat)) ∧ wx = w') := fun wx hb => implClassOf (Lx.byt s i) wx (Lx.byt_lt s i) (hc.below hb hc.lt)
  have g4 : ((Lx.cls (Lx.byt s i) : Int) == 4) = false := by simp; omega
  have g5 : ((Lx.cls (Lx.byt s i) : Int) == 5) = false := by simp; omega
  have g6 : ((Lx.cls (Lx.byt s i) : Int) == 6) = false := by simp; omega
  have g7 : ((Lx.cls (Lx.byt s i) : Int) == 7) = false := by simp; omega
  clear h4 h5 h6 h7 hc
  generalize Lx.cls (Lx.byt s i) = c at *
  go_enter Tryd.func29, Tryd.ntmps29
  go_wp2_with fail
  refine (HC.out _ ?_).mono ?_
  · exact ((Below.refl _ _).alloc (Nat.le_refl _) _).alloc (by simp) _
  rintro e w1 ⟨rfl, rfl⟩
  go_wp2
  exact ⟨rfl, rfl, ((Below.refl _ _).alloc (Nat.le_refl _) _).alloc (by simp) _⟩

end Go.Proofs.YtihpdngpedgjhaaDoor
