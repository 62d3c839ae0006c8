/-
  The walk of spec.Lex: the words and 0, or nothing and the line.
-/
import Derived.Test.YtihpdngpedgjhaaDoorSkipS
import Derived.Test.YtihpdngpedgjhaaDoorTokenT
import Derived.Test.YtihpdngpedgjhaaDoorLexJ
namespace Go.Proofs.YtihpdngpedgjhaaDoor
open Go.RowKit

theorem tokP_line (s : ByteArray) (i line : Nat) : Lx.tokP s i line = (Lx.tokP s i 0).map fun p => ({ p.1 with line := line }, p.2) := by
  unfold Lx.tokP
  repeat' split
  all_goals rfl

theorem lexS_go {s : ByteArray} {acc : List Lx.Tok} {k l k' k2 l2 : Nat} {t : Lx.Tok} (hr : Lx.Rest s acc k l) (hk : k < s.size) (hb : Lx.byt s k ≠ 32 ∧ Lx.byt s k ≠ 10 ∧ Lx.byt s k ≠ 35) (ht : Lx.tokP s k 0 = some (t, k')) (hs : Skips s k' l k2 l2) :
    Lx.Rest s (acc ++ [{ t with line := l }]) k2 l2 := by
  have e : Lx.tokP s k l = some ({ t with line := l }, k') := by rw [tokP_line, ht]; rfl
  exact (hr.go (Lx.lexP_some hk hb.1 hb.2.1 hb.2.2 e)).same hs.same

set_option maxHeartbeats 1600000 in
set_option maxRecDepth 100000 in
theorem specLex (s : ByteArray) (w : World) (hs : s.size ≤ 140737488355328) :
    Calls Tryd.prog 7 #[.string s] w fun e w' => LexAns s w e w' := by
  obtain ⟨i0, hi, hz0, hz1, hz2⟩ := info_parts Tryd.infoTok
  by_cases hbig : 3000 < s.size
  · have HR : Hid (Lx.lexA s = ([], 1)) := if_pos hbig
    have h' : (3000 : Int) < s.size := by omega
    clear hbig
    go_enter Tryd.func7, Tryd.ntmps7
    go_wp2
    go_ret2
    unfold LexAns
    rw [HR.out]
    exact ⟨_, rfl, World.ownsRow_made w #[] 0 (Nat.le_refl _) (by decide) rfl, (Below.refl _ _).alloc (Nat.le_refl _) _⟩
  · have hsz : s.size ≤ 3000 := by omega
    have h' : ¬ (3000 : Int) < s.size := by omega
    clear hbig hs
    have HK0 : Hid (∀ wx : World, Calls Tryd.prog 19 #[.string s, .int .i64 0, .int .i64 1] wx fun e w' => (∃ k l : Nat, e = .returned (.tuple #[.int .i64 (k : Nat), .int .i64 (l : Nat)]) ∧ Skips s 0 1 k l ∧ (k < s.size → Lx.byt s k ≠ 32 ∧ Lx.byt s k ≠ 10 ∧ Lx.byt s k ≠ 35)) ∧ wx = w') := fun wx => specSkip s 0 1 wx hsz (Nat.zero_le _) (by omega)
    go_enter Tryd.func7, Tryd.ntmps7
    go_wp2_with fail
    refine (HK0.out _).mono ?_
    rintro e w1 ⟨⟨k0, l0, rfl, hsk, hnb⟩, rfl⟩
    have HS0 : Hid (Skips s 0 1 k0 l0) := hsk
    have HN0 : Hid (k0 < s.size → Lx.byt s k0 ≠ 32 ∧ Lx.byt s k0 ≠ 10 ∧ Lx.byt s k0 ≠ 35) := hnb
    clear hsk hnb HK0
    go_wp2
    go_loopw [4, 5, 6] (fun v a b wr => ∃ (acc : List Lx.Tok) (k l : Nat), Lx.Rest s acc k l ∧ (k < s.size → Lx.byt s k ≠ 32 ∧ Lx.byt s k ≠ 10 ∧ Lx.byt s k ≠ 35) ∧ k ≤ s.size ∧ 1 ≤ l ∧ l ≤ k + 1 ∧ acc.length ≤ k ∧ a = .int .i64 k ∧ b = .int .i64 l ∧ wr.ownsRow w.heap.size 35 4 v acc.length (toksV acc) ∧ Below w.heap.size w wr ∧ w.heap.size ≤ wr.heap.size)
      (fun _ a _ _ => s.size - (intOf a).toNat)
    case atStart =>
      have q := HS0.out
      exact ⟨[], k0, l0, (Lx.Rest.start s).same q.same, HN0.out, q.hi, q.l0, by have := q.l1; omega, by simp, rfl, rfl, World.ownsRow_made w #[] 0 (Nat.le_refl _) (by decide) rfl, (Below.refl _ _).alloc (Nat.le_refl _) _, by simp⟩
    case round =>
      obtain ⟨acc, k, l, hrest, hnb, hk, hl1, hl2, hal, rfl, rfl, hown, hbe, hsz1⟩ := hrel
      have HR : Hid (Lx.Rest s acc k l) := hrest
      have HN : Hid (k < s.size → Lx.byt s k ≠ 32 ∧ Lx.byt s k ≠ 10 ∧ Lx.byt s k ≠ 35) := hnb
      clear hrest hnb HS0 HN0
      obtain ⟨ao, cap, hv⟩ := slice_own hown
      subst hv
      by_cases hlt : k < s.size
      · cases ht : Lx.tokP s k 0 with
        | none =>
          have HF : Hid (Lx.lexA s = ([], l)) := HR.out.no (Lx.lexP_none hlt (HN.out hlt).1 (HN.out hlt).2.1 (HN.out hlt).2.2 (by rw [tokP_line, ht]; rfl)) hsz
          have HQ : Hid (∀ wx : World, Calls Tryd.prog 20 #[.string s, .int .i64 k] wx fun e w' => e = .returned (.tuple #[.agg #[.int .i64 0, .string ByteArray.empty, .int .i64 0, .int .i64 0], .int .i64 (-1)]) ∧ Below wx.heap.size wx w') := fun wx => tokNo s k wx hsz hlt ht
          clear ht HR HN
          go_wp2_with fail
          refine (HQ.out _).mono ?_
          rintro e w2 ⟨rfl, hb2⟩
          have hbe2 : Below w.heap.size w w2 := hbe.trans (hb2.mono hsz1)
          have hsz2 : w.heap.size ≤ w2.heap.size := Nat.le_trans hsz1 hb2.size
          clear hown hbe hb2 hsz1
          go_wp2
          go_ret2
          unfold LexAns
          rw [HF.out]
          refine ⟨_, rfl, ?_, (hbe2.alloc hsz2 _).alloc (by simp; omega) _⟩
          have hz4 : w.heap.size ≤ (w2.alloc (.cells #[.int .i64 0, .string ByteArray.empty, .int .i64 0, .int .i64 0] 35)).heap.size := by simp; omega
          have q := World.ownsRow_made (e := 35) (size := 4) _ #[] 0 hz4 (by decide) rfl
          simp only [World.size_alloc] at q
          exact q
        | some p =>
          obtain ⟨t, k'⟩ := p
          have hr1 := (Lx.tokP_range ht hlt).1
          have hr2 := (Lx.tokP_range ht hlt).2.1
          have HF : Hid (∀ k2 l2, Skips s k' l k2 l2 → Lx.Rest s (acc ++ [{ t with line := l }]) k2 l2) := fun k2 l2 h => lexS_go HR.out hlt (HN.out hlt) ht h
          have HQ : Hid (∀ wx : World, Calls Tryd.prog 20 #[.string s, .int .i64 k] wx fun e w' => e = .returned (.tuple #[.agg #[.int .i64 (t.kind : Nat), .string t.text, .int .i64 (t.n : Nat), .int .i64 (t.line : Nat)], .int .i64 (k' : Nat)]) ∧ Below wx.heap.size wx w') := fun wx => tokYes s k t k' wx hsz hlt ht
          have HK : Hid (∀ wx : World, Calls Tryd.prog 19 #[.string s, .int .i64 (k' : Nat), .int .i64 (l : Nat)] wx fun e w' => (∃ k2 l2 : Nat, e = .returned (.tuple #[.int .i64 (k2 : Nat), .int .i64 (l2 : Nat)]) ∧ Skips s k' l k2 l2 ∧ (k2 < s.size → Lx.byt s k2 ≠ 32 ∧ Lx.byt s k2 ≠ 10 ∧ Lx.byt s k2 ≠ 35)) ∧ wx = w') := fun wx => specSkip s k' l wx hsz (by omega) (by omega)
          clear ht HR HN
          obtain ⟨tk, tt, tn, tl⟩ := t
          go_wp2_with fail
          refine (HQ.out _).mono ?_
          rintro e w2 ⟨rfl, hb2⟩
          have hown2 := kept_below hown hb2
          have hbe2 : Below w.heap.size w w2 := hbe.trans (hb2.mono hsz1)
          have hsz2 : w.heap.size ≤ w2.heap.size := Nat.le_trans hsz1 hb2.size
          clear hown hbe hb2 hsz1
          have hown3 := hown2.alloc (.cells #[.int .i64 (tk : Nat), .string tt, .int .i64 (tn : Nat), .int .i64 (l : Nat)] 35)
          have hbe3 := hbe2.alloc hsz2 (.cells #[.int .i64 (tk : Nat), .string tt, .int .i64 (tn : Nat), .int .i64 (l : Nat)] 35)
          have hsz3 : w.heap.size ≤ (w2.alloc (.cells #[.int .i64 (tk : Nat), .string tt, .int .i64 (tn : Nat), .int .i64 (l : Nat)] 35)).heap.size := by simp; omega
          have hkn : ¬ (k' : Int) < 0 := by omega
          go_wp2_with (at_builtin; refine wpList_append_own _ rfl _ _ 23 rfl w.heap.size 35 i0 (.agg #[.int .i64 0, .string ⟨#[]⟩, .int .i64 0, .int .i64 0]) 4 40 Tryd.underlying23 hi hz0 hz1 hz2 rfl (by decide) _ _ _ rfl (hown3.alloc _) ⟨w2.heap.size + 1, 0, none⟩ 1 1 (tokC ⟨tk, tt, tn, l⟩) rfl rfl ?c1 ?c2 ?c3 ?c4 ?c5 ?_)
          case c1 =>
            have := cell_four_new (w2.alloc (.cells #[.int .i64 (tk : Nat), .string tt, .int .i64 (tn : Nat), .int .i64 (l : Nat)] 35)) (.int .i64 (tk : Nat)) (.string tt) (.int .i64 (tn : Nat)) (.int .i64 (l : Nat)) 35
            rw [show (w2.alloc (.cells #[.int .i64 (tk : Nat), .string tt, .int .i64 (tn : Nat), .int .i64 (l : Nat)] 35)).heap.size = w2.heap.size + 1 from by simp] at this
            exact this
          case c2 => intro u hu; simp [tokC] at hu; rcases hu with rfl | rfl | rfl | rfl <;> rfl
          case c3 => unfold maxLen; omega
          case c4 => omega
          case c5 => simp; omega
          intro v' w3 hown' hgrow _
          obtain ⟨R1, R2, R3⟩ := step_tok hsz3 hown3 hbe3 hown' hgrow
          clear hown' hgrow hown2 hbe2 hsz2 hown3 hbe3 hsz3
          go_wp2_with fail
          refine (HK.out _).mono ?_
          rintro e w4 ⟨⟨k2, l2, rfl, hsk, hnb⟩, rfl⟩
          have HN2 : Hid (k2 < s.size → Lx.byt s k2 ≠ 32 ∧ Lx.byt s k2 ≠ 10 ∧ Lx.byt s k2 ≠ 35) := hnb
          have HF2 : Hid (Lx.Rest s (acc ++ [⟨tk, tt, tn, l⟩]) k2 l2) := HF.out k2 l2 hsk
          have s1 := hsk.lo
          have s2 := hsk.hi
          have s3 := hsk.l0
          have s4 := hsk.l1
          clear hsk hnb HF
          go_wp2
          go_roundw
          case rel => exact ⟨acc ++ [⟨tk, tt, tn, l⟩], k2, l2, HF2.out, HN2.out, s2, by omega, by omega, by simp; omega, rfl, rfl, R1, R2, R3⟩
          case measure => simp [intOf]; omega
      · have HF : Hid (Lx.lexA s = (acc, 0)) := HR.out.done (Lx.lexP_out (by omega)) hsz
        clear HR HN
        go_wp2
        go_ret2
        unfold LexAns
        rw [HF.out]
        exact ⟨_, rfl, hown, hbe⟩

end Go.Proofs.YtihpdngpedgjhaaDoor
