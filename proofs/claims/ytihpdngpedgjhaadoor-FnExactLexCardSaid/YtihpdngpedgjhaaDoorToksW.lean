/-
  The walk of impl.readWords: the words of a text, in new memory; or a panic that bears the line of the first byte that begins none.
-/
import Derived.Test.YtihpdngpedgjhaaDoorToksD
namespace Go.Proofs.YtihpdngpedgjhaaDoor
open Go.RowKit

theorem cls1 (b : Nat) : Lx.cls b = 1 ↔ b = 32 := by
  constructor
  · intro h
    unfold Lx.cls at h
    revert h
    repeat' split
    all_goals omega
  · intro h; rw [h]; rfl
theorem cls2 (b : Nat) : Lx.cls b = 2 ↔ b = 10 := by
  constructor
  · intro h
    unfold Lx.cls at h
    revert h
    repeat' split
    all_goals omega
  · intro h; rw [h]; rfl
theorem cls3 (b : Nat) : Lx.cls b = 3 ↔ b = 35 := by
  constructor
  · intro h
    unfold Lx.cls at h
    revert h
    repeat' split
    all_goals omega
  · intro h; rw [h]; rfl

/-- what becomes of a text's words -/
def Words (s : ByteArray) (w : World) (e : Ending) (w' : World) : Prop :=
  (∃ ts v, Lx.lexP s 0 1 = .ok ts ∧ e = .returned v ∧ w'.ownsRow w.heap.size 35 4 v ts.length (toksV ts) ∧ ts.length ≤ s.size ∧ Below w.heap.size w w') ∨
  (∃ n : Nat, Lx.lexP s 0 1 = .error n ∧ e = noWordE n ∧ n ≤ 3001 ∧ Below w.heap.size w w')

set_option maxHeartbeats 1600000 in
set_option maxRecDepth 100000 in
theorem implReadWords (s : ByteArray) (w : World) (hs : s.size ≤ 3000) (hc : ClsIs w) :
    Calls Tryd.prog 23 #[.string s] w fun e w' => Words s w e w' := by
  obtain ⟨i0, hi, hz0, hz1, hz2⟩ := info_parts Tryd.infoTok
  have HC : Hid (ClsIs w) := hc
  clear hc
  go_enter Tryd.func23, Tryd.ntmps23
  go_wp2
  go_loopw [3, 4, 5] (fun v l a wr => ∃ (acc : List Lx.Tok) (line k : Nat), Lx.Rest s acc k line ∧ k ≤ s.size ∧ 1 ≤ line ∧ line ≤ k + 1 ∧ acc.length ≤ k ∧ l = .int .i64 line ∧ a = .int .i64 k ∧ wr.ownsRow w.heap.size 35 4 v acc.length (toksV acc) ∧ Below w.heap.size w wr ∧ w.heap.size ≤ wr.heap.size)
    (fun _ _ a _ => s.size - (intOf a).toNat)
  case atStart => exact ⟨[], 1, 0, Lx.Rest.start s, Nat.zero_le _, by omega, by omega, by simp, rfl, rfl, World.ownsRow_nil _ _ _ _, Below.refl _ _, Nat.le_refl _⟩
  case round =>
    obtain ⟨acc, line, k, hrest, hk, hl1, hl2, hal, rfl, rfl, hown, hbe, hsz⟩ := hrel
    have HR : Hid (Lx.Rest s acc k line) := hrest
    clear hrest
    obtain ⟨ao, cap, hv⟩ := slice_own hown
    subst hv
    by_cases hlt : k < s.size
    · have hbe1 := Lx.byt_eq s k hlt
      have HK : Hid (∀ wx : World, Below w.heap.size w wx → Calls Tryd.prog 17 #[.int .u8 (Lx.byt s k : Nat)] wx fun e w' => e = .returned (.int .u8 (Lx.cls (Lx.byt s k) : Nat)) ∧ wx = w') := fun wx hb => implClassOf (Lx.byt s k) wx (Lx.byt_lt s k) (HC.out.below hb HC.out.lt)
      by_cases c1 : Lx.byt s k = 32
      · have HR2 : Hid (Lx.Rest s acc (k + 1) line) := HR.out.same (Lx.lexP_blank hlt c1)
        rw [(cls1 _).2 c1] at HK
        clear c1
        go_wp2_with (go_at_call 17; refine (HK.out _ hbe).mono ?_; rintro e w1 ⟨rfl, rfl⟩)
        go_roundw
        case rel => exact ⟨acc, line, k + 1, HR2.out, by omega, hl1, by omega, by omega, rfl, by go_num, hown, hbe, hsz⟩
        case measure => simp [intOf]; omega
      · by_cases c2 : Lx.byt s k = 10
        · have HR2 : Hid (Lx.Rest s acc (k + 1) (line + 1)) := HR.out.same (Lx.lexP_newline hlt c2)
          rw [(cls2 _).2 c2] at HK
          clear c1 c2
          go_wp2_with (go_at_call 17; refine (HK.out _ hbe).mono ?_; rintro e w1 ⟨rfl, rfl⟩)
          go_roundw
          case rel => exact ⟨acc, line + 1, k + 1, HR2.out, by omega, by omega, by omega, by omega, by go_num, by go_num, hown, hbe, hsz⟩
          case measure => simp [intOf]; omega
        · by_cases c3 : Lx.byt s k = 35
          · have HR2 : Hid (Lx.Rest s acc (Lx.endP Lx.noteB s k) line) := HR.out.same (Lx.lexP_note hlt c3)
            have hgt := Lx.noteEnd_gt hlt c3
            have hle := Lx.endP_le Lx.noteB s k hk
            have HN : Hid (∀ wx : World, Calls Tryd.prog 28 #[.string s, .int .i64 k] wx fun e w' => e = .returned (.int .i64 (Lx.endP Lx.noteB s k : Nat)) ∧ wx = w') := fun wx => implNoteEnd s k wx (by omega) hk
            rw [(cls3 _).2 c3] at HK
            clear c1 c2 c3
            generalize Lx.endP Lx.noteB s k = E at *
            go_wp2_with (first | (go_at_call 17; refine (HK.out _ hbe).mono ?_; rintro e w1 ⟨rfl, rfl⟩) | (go_at_call 28; refine (HN.out _).mono ?_; rintro e w1 ⟨rfl, rfl⟩))
            go_roundw
            case rel => exact ⟨acc, line, E, HR2.out, hle, hl1, by omega, by omega, rfl, rfl, hown, hbe, hsz⟩
            case measure => simp [intOf]; omega
          · have g1 : ((Lx.cls (Lx.byt s k) : Int) == 1) = false := by have := mt (cls1 _).1 c1; simp; omega
            have g2 : ((Lx.cls (Lx.byt s k) : Int) == 2) = false := by have := mt (cls2 _).1 c2; simp; omega
            have g3 : ((Lx.cls (Lx.byt s k) : Int) == 3) = false := by have := mt (cls3 _).1 c3; simp; omega
            cases ht : Lx.tokP s k line with
            | none =>
              have HF : Hid (Lx.lexP s 0 1 = .error line) := HR.out.err (Lx.lexP_none hlt c1 c2 c3 ht)
              have HQ : Hid (∀ wx : World, Below w.heap.size w wx → Calls Tryd.prog 29 #[.string s, .int .i64 k, .int .i64 line] wx fun e w' => e = .panicked [{ v := .iface 49 (.agg #[.int .i64 (line : Nat)]), recovered := false }] ∧ Below wx.heap.size wx w') := fun wx hb => readNo s k line wx hs hlt (HC.out.below hb HC.out.lt) ht
              clear c1 c2 c3 ht HR
              generalize Lx.cls (Lx.byt s k) = c at *
              go_wp2_with (first | (go_at_call 17; refine (HK.out _ hbe).mono ?_; rintro e w1 ⟨rfl, rfl⟩) | (go_at_call 29; refine (HQ.out _ hbe).mono ?_; rintro e w1 ⟨rfl, hb1⟩))
              exact ⟨rfl, .inr ⟨line, HF.out, rfl, by omega, hbe.trans (hb1.mono hsz)⟩⟩
            | some p =>
              obtain ⟨t, k'⟩ := p
              have HF : Hid (Lx.Rest s (acc ++ [t]) k' line) := HR.out.go (Lx.lexP_some hlt c1 c2 c3 ht)
              have hr1 := (Lx.tokP_range ht hlt).1
              have hr2 := (Lx.tokP_range ht hlt).2.1
              have HQ : Hid (∀ wx : World, Below w.heap.size w wx → Calls Tryd.prog 29 #[.string s, .int .i64 k, .int .i64 line] wx fun e w' => e = .returned (.tuple #[.agg #[.int .i64 (t.kind : Nat), .string t.text, .int .i64 (t.n : Nat), .int .i64 (t.line : Nat)], .int .i64 (k' : Nat)]) ∧ Below wx.heap.size wx w') := fun wx hb => readYes s k line t k' wx hs hlt (HC.out.below hb HC.out.lt) ht
              clear c1 c2 c3 ht HR
              generalize Lx.cls (Lx.byt s k) = c at *
              go_wp2_with fail
              refine (HK.out _ hbe).mono ?_
              rintro e w1 ⟨rfl, rfl⟩
              go_wp2_with fail
              refine (HQ.out _ hbe).mono ?_
              rintro e w2 ⟨rfl, hb2⟩
              have hown2 := kept_below hown hb2
              have hbe2 : Below w.heap.size w w2 := hbe.trans (hb2.mono hsz)
              have hsz2 : w.heap.size ≤ w2.heap.size := Nat.le_trans hsz hb2.size
              clear hown hbe hb2 hsz
              have hown3 := hown2.alloc (.cells #[.int .i64 (t.kind : Nat), .string t.text, .int .i64 (t.n : Nat), .int .i64 (t.line : Nat)] 35)
              have hbe3 := hbe2.alloc hsz2 (.cells #[.int .i64 (t.kind : Nat), .string t.text, .int .i64 (t.n : Nat), .int .i64 (t.line : Nat)] 35)
              have hsz3 : w.heap.size ≤ (w2.alloc (.cells #[.int .i64 (t.kind : Nat), .string t.text, .int .i64 (t.n : Nat), .int .i64 (t.line : Nat)] 35)).heap.size := by simp; omega
              go_wp2_with (at_builtin; refine wpList_append_own _ rfl _ _ 23 rfl w.heap.size 35 i0 (.agg #[.int .i64 0, .string ⟨#[]⟩, .int .i64 0, .int .i64 0]) 4 40 Tryd.underlying23 hi hz0 hz1 hz2 rfl (by decide) _ _ _ rfl (hown3.alloc _) ⟨w2.heap.size + 1, 0, none⟩ 1 1 (tokC t) rfl rfl ?c1 ?c2 ?c3 ?c4 ?c5 ?_)
              case c1 =>
                have := cell_four_new (w2.alloc (.cells #[.int .i64 (t.kind : Nat), .string t.text, .int .i64 (t.n : Nat), .int .i64 (t.line : Nat)] 35)) (.int .i64 (t.kind : Nat)) (.string t.text) (.int .i64 (t.n : Nat)) (.int .i64 (t.line : Nat)) 35
                rw [show (w2.alloc (.cells #[.int .i64 (t.kind : Nat), .string t.text, .int .i64 (t.n : Nat), .int .i64 (t.line : Nat)] 35)).heap.size = w2.heap.size + 1 from by simp] at this
                exact this
              case c2 => intro u hu; simp [tokC] at hu; rcases hu with rfl | rfl | rfl | rfl <;> rfl
              case c3 => unfold maxLen; omega
              case c4 => omega
              case c5 => simp; omega
              intro v' w3 hown' hgrow _
              obtain ⟨R1, R2, R3⟩ := step_tok hsz3 hown3 hbe3 hown' hgrow
              clear hown' hgrow hown2 hbe2 hsz2 hown3 hbe3 hsz3
              go_wp2
              go_roundw
              case rel => exact ⟨acc ++ [t], line, k', HF.out, hr2, hl1, by omega, by simp; omega, rfl, rfl, R1, R2, R3⟩
              case measure => simp [intOf]; omega
    · have HF : Hid (Lx.lexP s 0 1 = .ok acc) := HR.out.fin (Lx.lexP_out (by omega))
      clear HR
      go_wp2
      go_ret
      exact .inl ⟨acc, _, HF.out, rfl, hown, by omega, hbe⟩

end Go.Proofs.YtihpdngpedgjhaaDoor
