/-
  The walks of the function that impl.Lex defers (it recovers) and of impl.Lex: the words and 0, or nothing and the line.
-/
import Derived.Test.YtihpdngpedgjhaaDoorLexI
namespace Go.Proofs.YtihpdngpedgjhaaDoor
open Go.RowKit Go.Extern.Stop Go.Stop Go.Extern

theorem catch_idle (p q : Addr) (w : World) :
    CallsD Tryd.prog 21 #[.pointer (some p), .pointer (some q)] .returning w fun e u' w' => e = .returned (.tuple #[]) ∧ u' = .returning ∧ w' = w := by
  refine callsD_of_wpS Tryd.func21 rfl fun c₀ cs hu => ?_
  apply wpS_seq
  apply wpS_region
  simp [wpOpsS, go_sem, recoverD, hu, Tryd.ntmps21, Exit.thenS]
  refine wpS_of_wp ?_
  change Code.wp _ _ _ { tmps := #[.pointer (some p), .pointer (some q), .nilIface, .nilIface, undef, undef, undef, undef], defers := [] } w
  go_wp2
  cases c₀
  simp_all [bodyPostS, results, Tryd.results21]

theorem catch_panicking (p q : Addr) (n : Int) (older : List PanicEntry) (w : World) (vp vq : Value) (hg : ErrIs w) (hB : p.block < w.heap.size) (hB2 : q.block < w.heap.size) (hpq : p ≠ q)
    (hp : w.cell? p = some vp) (hq : w.cell? q = some vq) (hfp : w.frozen? p = false) (hfq : w.frozen? q = false) (hle : p.block ≤ q.block) :
    CallsD Tryd.prog 21 #[.pointer (some p), .pointer (some q)] (.panicking ({ v := .iface 49 (.agg #[.int .i64 n]), recovered := false } :: older)) w fun e u' w' =>
      e = .returned (.tuple #[]) ∧ u' = .panicking ({ v := .iface 49 (.agg #[.int .i64 n]), recovered := true } :: older) ∧ w'.cell? p = some (.slice none 0 0) ∧ w'.cell? q = some (.int .i64 n) ∧ Below p.block w w' := by
  have HL : Hid (Calls Tryd.prog 22 #[.iface 49 (.agg #[.int .i64 n])] w fun e w' => e = .returned (.int .i64 n) ∧ Below w.heap.size w w') := implRefusedLine n w hg
  clear hg
  refine callsD_of_wpS Tryd.func21 rfl fun c₀ cs hu => ?_
  apply wpS_seq
  apply wpS_region
  simp [wpOpsS, go_sem, recoverD, hu, Tryd.ntmps21, Exit.thenS]
  refine wpS_of_wp ?_
  change Code.wp _ _ _ { tmps := #[.pointer (some p), .pointer (some q), .iface 49 (.agg #[.int .i64 n]), .iface 49 (.agg #[.int .i64 n]), undef, undef, undef, undef], defers := [] } w
  go_wp2_with fail
  refine HL.out.mono ?_
  rintro e w1 ⟨rfl, hb1⟩
  have hp1 := (hb1.cell hB).trans hp
  have hq1 := (hb1.cell hB2).trans hq
  have hfp1 := (hb1.frozen hB).trans hfp
  have hfq1 := (hb1.frozen hB2).trans hfq
  go_wp2
  refine ⟨rfl, _, rfl, .tuple #[], by simp [results, Tryd.results21], rfl, rfl, ?_, ?_, ?_⟩
  · rw [World.cell?_setCell_other _ _ _ _ (Ne.symm hpq)]
    exact World.cell?_setCell_same _ _ _ hp1
  · have : (w1.setCell p (.slice none 0 0)).cell? q = some vq := by rw [World.cell?_setCell_other _ _ _ _ hpq]; exact hq1
    exact World.cell?_setCell_same _ _ _ this
  · exact ((hb1.mono (Nat.le_of_lt hB)).setCell (Nat.le_refl _) _).setCell hle _

/-- what Lex answers -/
def LexAns (s : ByteArray) (w : World) (e : Ending) (w' : World) : Prop :=
  ∃ v, e = .returned (.tuple #[v, .int .i64 ((Lx.lexA s).2 : Nat)]) ∧ w'.ownsRow w.heap.size 35 4 v (Lx.lexA s).1.length (toksV (Lx.lexA s).1) ∧ Below w.heap.size w w'

theorem implLex_big (s : ByteArray) (w : World) (hs : s.size ≤ 140737488355328) (h : 3000 < s.size) :
    Calls Tryd.prog 8 #[.string s] w fun e w' => LexAns s w e w' := by
  have hr : Lx.lexA s = ([], 1) := if_pos h
  unfold LexAns
  rw [hr]
  have h' : (3000 : Int) < s.size := by omega
  go_enter_defers Tryd.func8, Tryd.ntmps8
  go_wp2
  exact ⟨.tuple #[.slice none 0 0, .int .i64 1], by simp [results, Tryd.results8, go_sem], .slice none 0 0, rfl, World.ownsRow_nil _ _ _ _, ((Below.refl _ _).alloc (Nat.le_refl _) _).alloc (by simp) _⟩

theorem owns_le {w : World} {B B' e z : Nat} {v : Value} {n : Nat} {xs : List Value} (h : w.ownsRow B e z v n xs) (hB : B' ≤ B) : w.ownsRow B' e z v n xs := by
  refine ⟨h.1, ?_⟩
  rcases h.2 with h | ⟨g, cap, cur, hv, hg, r⟩
  · exact .inl h
  · exact .inr ⟨g, cap, cur, hv, Nat.le_trans hB hg, r⟩

theorem lexA_ok {s : ByteArray} {ts : List Lx.Tok} (h : s.size ≤ 3000) (e : Lx.lexP s 0 1 = .ok ts) : Lx.lexA s = (ts, 0) := by
  unfold Lx.lexA
  rw [if_neg (by omega), e]
theorem lexA_err {s : ByteArray} {n : Nat} (h : s.size ≤ 3000) (e : Lx.lexP s 0 1 = .error n) : Lx.lexA s = ([], n) := by
  unfold Lx.lexA
  rw [if_neg (by omega), e]

theorem ret_lex {R : Ending → World → Prop} {tmps : Array Value} {W : World} {b : Nat} {v x : Value} (hp : tmps[2]?.getD undef = .pointer (some ⟨b, 0, none⟩)) (hq : tmps[3]?.getD undef = .pointer (some ⟨b + 1, 0, none⟩))
    (h0 : W.cell? ⟨b, 0, none⟩ = some v) (h1 : W.cell? ⟨b + 1, 0, none⟩ = some x) (hR : R (.returned (.tuple #[v, x])) W) : Leaves Tryd.prog Tryd.f8 tmps R [] .returning W :=
  ⟨.tuple #[v, x], by simp [results, Tryd.results8, go_sem, hp, hq, h0, h1], hR⟩

set_option maxHeartbeats 800000 in
theorem implLex_small (s : ByteArray) (w : World) (h : s.size ≤ 3000) (hc : ClsIs w) (hg : ErrIs w) :
    Calls Tryd.prog 8 #[.string s] w fun e w' => LexAns s w e w' := by
  have hmf : ∀ (fn : Fn) (first cap : Array Value) (w : World), (Instr.makeFunc fn first cap).run Tryd.prog w = .ok (.func fn first cap) w := fun _ _ _ _ => rfl
  have HW : Hid (∀ wx : World, Below w.heap.size w wx → Calls Tryd.prog 23 #[.string s] wx fun e w' => Words s wx e w') := fun wx hb => implReadWords s wx h (hc.below hb hc.lt)
  have HG : Hid (∀ wx : World, Below w.heap.size w wx → ErrIs wx) := fun wx hb => hg.below hb hg.lt
  have hlt := hg.lt
  have h' : ¬ (3000 : Int) < s.size := by omega
  clear hc hg
  go_enter_defers Tryd.func8, Tryd.ntmps8
  go_wp2_with fail
  refine (HW.out _ (((Below.refl _ _).alloc (Nat.le_refl _) _).alloc (by simp) _)).mono ?_
  rintro e w1 (⟨ts, v, hl, rfl, hown, hlen, hb1⟩ | ⟨n, hl, rfl, hn, hb1⟩)
  · obtain ⟨bc, bf⟩ := bcell hb1
    have hsz : w.heap.size + 1 < w1.heap.size := by have := hb1.size; simp at this; omega
    have hv : v.oneCell' = true := by
      obtain ⟨a, cap, rfl⟩ := slice_own hown
      rfl
    have c0 : w1.cell? ⟨w.heap.size, 0, none⟩ = some (.slice none 0 0) := by rw [bc _ _ (by simp; omega)]; simp
    have c1 : w1.cell? ⟨w.heap.size + 1, 0, none⟩ = some (.int .i64 0) := by rw [bc _ _ (by simp)]; simp
    have f0 : w1.frozen? ⟨w.heap.size, 0, none⟩ = false := by rw [bf _ _ (by simp; omega)]; simp
    have f1 : w1.frozen? ⟨w.heap.size + 1, 0, none⟩ = false := by rw [bf _ _ (by simp)]; simp
    have HO : Hid (w1.ownsRow (w.heap.size + 1 + 1) 35 4 v ts.length (toksV ts)) := by
      have := hown
      simp only [World.size_alloc] at this
      exact this
    have HL : Hid (Lx.lexA s = (ts, 0)) := lexA_ok h hl
    have HB : Hid (Below w.heap.size w w1) := (((Below.refl _ _).alloc (Nat.le_refl _) _).alloc (by simp) _).trans (hb1.mono (by simp; omega))
    obtain ⟨a, cap, rfl⟩ := slice_own hown
    clear hown hl hb1 bc bf HW HG hv
    go_wp2
    refine leaves_cons (f := 21) (args := #[.pointer (some ⟨w.heap.size, 0, none⟩), .pointer (some ⟨w.heap.size + 1, 0, none⟩)]) (by simp) (by simp [go_sem]) ?_
    refine (catch_idle ⟨w.heap.size, 0, none⟩ ⟨w.heap.size + 1, 0, none⟩ _).mono ?_
    rintro e u' w'' ⟨rfl, rfl, rfl⟩
    refine ret_lex (b := w.heap.size) (v := .slice a ts.length cap) (x := .int .i64 0) rfl rfl ?_ ?_ ?_
    · rw [World.cell?_setCell_other _ _ _ _ (by simp)]
      exact World.cell?_setCell_same _ _ _ c0
    · refine World.cell?_setCell_same _ _ _ (u := .int .i64 0) ?_
      rw [World.cell?_setCell_other _ _ _ _ (by simp)]
      exact c1
    · unfold LexAns
      rw [HL.out]
      refine ⟨_, rfl, ?_, ?_⟩
      · exact owns_le (ownsRow_setCell_below (ownsRow_setCell_below HO.out (by simp; omega) _) (by simp) _) (by omega)
      · exact (HB.out.setCell (by simp) _).setCell (by simp) _
  · unfold noWordE noWordP
    obtain ⟨bc, bf⟩ := bcell hb1
    have hsz : w.heap.size + 1 < w1.heap.size := by have := hb1.size; simp at this; omega
    have c0 : w1.cell? ⟨w.heap.size, 0, none⟩ = some (.slice none 0 0) := by rw [bc _ _ (by simp; omega)]; simp
    have c1 : w1.cell? ⟨w.heap.size + 1, 0, none⟩ = some (.int .i64 0) := by rw [bc _ _ (by simp)]; simp
    have f0 : w1.frozen? ⟨w.heap.size, 0, none⟩ = false := by rw [bf _ _ (by simp; omega)]; simp
    have f1 : w1.frozen? ⟨w.heap.size + 1, 0, none⟩ = false := by rw [bf _ _ (by simp)]; simp
    have HL : Hid (Lx.lexA s = ([], n)) := lexA_err h hl
    have HB : Hid (Below w.heap.size w w1) := (((Below.refl _ _).alloc (Nat.le_refl _) _).alloc (by simp) _).trans (hb1.mono (by simp; omega))
    have HG1 : Hid (ErrIs w1) := HG.out w1 HB.out
    clear hl hb1 bc bf HW HG
    go_wp2
    refine leaves_cons (f := 21) (args := #[.pointer (some ⟨w.heap.size, 0, none⟩), .pointer (some ⟨w.heap.size + 1, 0, none⟩)]) (by simp) (by simp [go_sem]) ?_
    refine (catch_panicking ⟨w.heap.size, 0, none⟩ ⟨w.heap.size + 1, 0, none⟩ n [] _ _ _ HG1.out (by simp; omega) (by simp; omega) (by simp) c0 c1 f0 f1 (by simp)).mono ?_
    rintro e u' w'' ⟨rfl, rfl, d0, d1, hbw⟩
    refine ret_lex (b := w.heap.size) (v := .slice none 0 0) (x := .int .i64 n) rfl rfl d0 d1 ?_
    unfold LexAns
    rw [HL.out]
    exact ⟨_, rfl, World.ownsRow_nil _ _ _ _, HB.out.trans hbw⟩

end Go.Proofs.YtihpdngpedgjhaaDoor
