/-
  The walks of impl.GetTexts and spec.GetTexts: each answers the texts whose bytes the text is, in new memory of its own.
-/
import Derived.Test.YticcdaohpbkjeaaGetTextW
import Derived.Test.YticcdaohpbkjeaaTextsD
namespace Go.Proofs.Yticcdaohpbkjeaa
open Go.RowKit

theorem getTI_range (s : ByteArray) (i : Int) : (getTI s i).2 = -1 ∨ (1 ≤ (getTI s i).2 ∧ (getTI s i).2 ≤ s.size) := by
  have h := getNI_range s i
  unfold getTI
  by_cases hc : (getNI s i).2 < 0 ∨ 10000000 < (getNI s i).1 ∨ (s.size : Int) - (getNI s i).2 < (getNI s i).1
  · rw [if_pos hc]; exact .inl rfl
  · rw [if_neg hc]
    rcases h with h | h
    · rw [h] at hc; simp at hc
    · right
      simp only
      omega

/-- so many texts, one behind the other, and the place behind them -/
def getTsL (s : ByteArray) : Nat → Int → Option (List ByteArray × Int)
  | 0, a => some ([], a)
  | n + 1, a => if (getTI s a).2 < 0 then none else (getTsL s n (getTI s a).2).map fun y => ((getTI s a).1 :: y.1, y.2)

/-- GetTexts' answer -/
def getTs (s : ByteArray) : List ByteArray × Bool :=
  if (getNI s 0).2 < 0 ∨ 200 < (getNI s 0).1 then ([], false)
  else match getTsL s (getNI s 0).1.toNat (getNI s 0).2 with
    | none => ([], false)
    | some y => if y.2 = (s.size : Int) then (y.1, true) else ([], false)

/-- what is still to be read, behind what has been read -/
def Rest (s : ByteArray) (acc : List ByteArray) (m : Nat) (a : Int) (N : Nat) (a0 : Int) : Prop :=
  getTsL s N a0 = (getTsL s m a).map fun y => (acc ++ y.1, y.2)

theorem Rest.start (s : ByteArray) (N : Nat) (a0 : Int) : Rest s [] N a0 N a0 := by
  unfold Rest
  cases getTsL s N a0 <;> simp

theorem Rest.go {s : ByteArray} {acc : List ByteArray} {m : Nat} {a : Int} {N : Nat} {a0 : Int} (h : Rest s acc (m + 1) a N a0) (hp : ¬ (getTI s a).2 < 0) : Rest s (acc ++ [(getTI s a).1]) m (getTI s a).2 N a0 := by
  unfold Rest at h ⊢
  rw [h, getTsL, if_neg hp, Option.map_map]
  cases getTsL s m (getTI s a).2 <;> simp

theorem Rest.no {s : ByteArray} {acc : List ByteArray} {m : Nat} {a : Int} {N : Nat} {a0 : Int} (h : Rest s acc (m + 1) a N a0) (hp : (getTI s a).2 < 0) : getTsL s N a0 = none := by
  unfold Rest at h
  rw [h, getTsL, if_pos hp]
  rfl

theorem Rest.done {s : ByteArray} {acc : List ByteArray} {a : Int} {N : Nat} {a0 : Int} (h : Rest s acc 0 a N a0) : getTsL s N a0 = some (acc, a) := by
  unfold Rest at h
  rw [h]
  simp [getTsL]

theorem getTs_no {s : ByteArray} (h : ¬ ((getNI s 0).2 < 0 ∨ 200 < (getNI s 0).1)) (hn : getTsL s (getNI s 0).1.toNat (getNI s 0).2 = none) : getTs s = ([], false) := by
  unfold getTs
  rw [if_neg h, hn]

theorem getTs_some {s : ByteArray} {acc : List ByteArray} {a : Int} (h : ¬ ((getNI s 0).2 < 0 ∨ 200 < (getNI s 0).1)) (hn : getTsL s (getNI s 0).1.toNat (getNI s 0).2 = some (acc, a)) : getTs s = if a = (s.size : Int) then (acc, true) else ([], false) := by
  unfold getTs
  rw [if_neg h, hn]

theorem slice_of_own {w : World} {B e : Nat} {v : Value} {n : Nat} {xs : List Value} (h : w.ownsRow B e 1 v n xs) : ∃ a cap, v = .slice a n cap := by
  rcases h.2 with ⟨rfl, h0⟩ | ⟨g, cap, cur, hv, _⟩
  · exact ⟨none, 0, by rw [h0]⟩
  · exact ⟨_, cap, hv⟩

theorem own_below {w w' : World} {B e : Nat} {v : Value} {n : Nat} {xs : List Value} (h : w.ownsRow B e 1 v n xs) (hb : Below w.heap.size w w') : w'.ownsRow B e 1 v n xs :=
  h.kept (row := none) ⟨hb.os, hb.tape, hb.output, hb.size, fun k hk _ => hb.block k hk⟩ (Classical.em _)

/-- behind an append of one text: what is owned, and what has not turned -/
theorem step_str {B : Nat} {w wr w1 : World} {v v' : Value} {o : Obj} {acc : List ByteArray} {p : ByteArray} (hBw : B ≤ wr.heap.size)
    (hown : wr.ownsRow B 9 1 v acc.length (strV acc)) (hnx : Below B w wr)
    (hown' : w1.ownsRow B 9 1 v' (acc.length + 1) (strV acc ++ [.string p])) (hgrow : (wr.alloc o).grownBy w1 v.ownBlock) :
    w1.ownsRow B 9 1 v' (acc ++ [p]).length (strV (acc ++ [p])) ∧ Below B w w1 ∧ B ≤ w1.heap.size := by
  have hB1 : Below B w w1 := (hnx.alloc (by omega) o).grown hgrow (by simp; omega) (fun j hj => (hown.lt j hj).1)
  refine ⟨by simpa [strV] using hown', hB1, ?_⟩
  have := hgrow.size
  simp at this
  omega

set_option maxHeartbeats 800000 in
set_option maxRecDepth 100000 in
theorem implGetTexts (s : ByteArray) (w : World) (hs : s.size ≤ 140737488355328) :
    Calls Try.prog 17 #[.string s] w fun e w' => ∃ v, e = .returned (.tuple #[v, .bool (getTs s).2]) ∧ w'.ownsRow w.heap.size 9 1 v (getTs s).1.length (strV (getTs s).1) ∧ Below w.heap.size w w' := by
  obtain ⟨i0, hi, hz0, hz1, hz2⟩ := info_parts Try.infoString
  have hr := getNI_range s 0
  have HG : Hid (∀ wx : World, Calls Try.prog 24 #[.string s, .int .i64 0] wx fun e w' => e = .returned (.tuple #[.int .i64 (getNI s 0).1, .int .i64 (getNI s 0).2]) ∧ wx = w') := fun wx => implGetNum s 0 wx hs (by decide)
  have HX : Hid (∀ (i : Int) (wx : World), i ≤ 9223372036854775807 → Calls Try.prog 25 #[.string s, .int .i64 i] wx fun e w' => e = .returned (.tuple #[.string (getTI s i).1, .int .i64 (getTI s i).2]) ∧ Below wx.heap.size wx w') := fun i wx h => implGetText s i wx hs h
  by_cases hbad : (getNI s 0).2 < 0 ∨ 200 < (getNI s 0).1
  · have hres : getTs s = ([], false) := if_pos hbad
    rw [hres]
    generalize getNI s 0 = r at *
    obtain ⟨n, a⟩ := r
    simp only at hbad HG
    have fin : ∃ v, Ending.returned (.tuple #[.slice none 0 0, .bool false]) = Ending.returned (.tuple #[v, .bool false]) ∧ w.ownsRow w.heap.size 9 1 v ([] : List ByteArray).length (strV []) ∧ Below w.heap.size w w := ⟨_, rfl, World.ownsRow_nil _ _ _ _, Below.refl _ _⟩
    have FIN : Hid (∃ v, Ending.returned (.tuple #[.slice none 0 0, .bool false]) = Ending.returned (.tuple #[v, .bool false]) ∧ w.ownsRow w.heap.size 9 1 v ([] : List ByteArray).length (strV []) ∧ Below w.heap.size w w) := fin
    clear fin hr
    by_cases h1 : a < 0
    · clear hbad
      go_enter Try.func17, Try.ntmps17
      go_wp2_with (go_at_call 24; refine (HG.out _).mono ?_; rintro e w1 ⟨rfl, rfl⟩)
      go_ret2
      exact FIN.out
    · have h2 : 200 < n := by omega
      clear hbad
      go_enter Try.func17, Try.ntmps17
      go_wp2_with (go_at_call 24; refine (HG.out _).mono ?_; rintro e w1 ⟨rfl, rfl⟩)
      go_ret2
      exact FIN.out
  · have HN : Hid (∀ acc a, getTsL s (getNI s 0).1.toNat (getNI s 0).2 = some (acc, a) → getTs s = if a = (s.size : Int) then (acc, true) else ([], false)) := fun acc a h => getTs_some hbad h
    have HO : Hid (getTsL s (getNI s 0).1.toNat (getNI s 0).2 = none → getTs s = ([], false)) := fun h => getTs_no hbad h
    have hr2 : 0 ≤ (getNI s 0).1 ∧ (getNI s 0).1 ≤ 200 ∧ 1 ≤ (getNI s 0).2 ∧ (getNI s 0).2 ≤ s.size := by
      rcases hr with h | h
      · rw [h] at hbad; simp at hbad
      · omega
    clear hr hbad
    generalize getNI s 0 = r at *
    obtain ⟨n, a0⟩ := r
    simp only at hr2 HG HN HO
    obtain ⟨h1, h2, h3, h4⟩ := hr2
    obtain ⟨N, rfl⟩ := Int.eq_ofNat_of_zero_le h1
    rw [Int.toNat_natCast] at HN HO
    have hd : decide ((200 : Int) < N) = false := by simp; omega
    have hd0 : ¬ a0 < 0 := by omega
    go_enter Try.func17, Try.ntmps17
    go_wp2_with (go_at_call 24; refine (HG.out _).mono ?_; rintro e w1 ⟨rfl, rfl⟩)
    go_loopw [5, 6] (fun x v wr => ∃ (acc : List ByteArray) (m : Nat) (a : Int), acc.length + m = N ∧ x = .int .i64 a ∧ 1 ≤ a ∧ a ≤ s.size ∧ Rest s acc m a N a0 ∧ wr.ownsRow w.heap.size 9 1 v acc.length (strV acc) ∧ Below w.heap.size w wr ∧ w.heap.size ≤ wr.heap.size)
      (fun _ v _ => N - (match v with | .slice _ n _ => n | _ => 0))
    case atStart => exact ⟨[], N, a0, by simp, rfl, h3, h4, Rest.start s N a0, World.ownsRow_nil _ _ _ _, Below.refl _ _, Nat.le_refl _⟩
    case round =>
      obtain ⟨acc, m, a, hm, rfl, ha1, ha2, hrest, hown, hbe, hsz⟩ := hrel
      have HR : Hid (Rest s acc m a N a0) := hrest
      clear hrest
      obtain ⟨ao, cap, hv⟩ := slice_of_own hown
      subst hv
      by_cases hlt : acc.length < N
      · obtain ⟨m, rfl⟩ : ∃ q, m = q + 1 := ⟨m - 1, by omega⟩
        have hrg := getTI_range s a
        have HP : Hid (∀ wx : World, Calls Try.prog 25 #[.string s, .int .i64 a] wx fun e w' => e = .returned (.tuple #[.string (getTI s a).1, .int .i64 (getTI s a).2]) ∧ Below wx.heap.size wx w') := fun wx => HX.out a wx (by omega)
        by_cases hp : (getTI s a).2 < 0
        · have HF : Hid (getTs s = ([], false)) := HO.out (HR.out.no hp)
          generalize getTI s a = r at *
          obtain ⟨t, a'⟩ := r
          simp only at hp hrg HP
          clear hrg HR
          go_wp2_with (go_at_call 25; refine (HP.out _).mono ?_; rintro e w2 ⟨rfl, hb2⟩)
          go_ret2
          rw [HF.out]
          exact ⟨_, rfl, World.ownsRow_nil _ _ _ _, hbe.trans (hb2.mono hsz)⟩
        · have HR2 : Hid (Rest s (acc ++ [(getTI s a).1]) m (getTI s a).2 N a0) := HR.out.go hp
          have hrg2 : 1 ≤ (getTI s a).2 ∧ (getTI s a).2 ≤ s.size := by omega
          generalize getTI s a = r at *
          obtain ⟨t, a'⟩ := r
          simp only at hp hrg2 HP HR2
          clear hrg HR
          go_wp2_with fail
          refine (HP.out _).mono ?_
          rintro e w2 ⟨rfl, hb2⟩
          have hown2 := own_below hown hb2
          have hbe2 : Below w.heap.size w w2 := hbe.trans (hb2.mono hsz)
          have hsz2 : w.heap.size ≤ w2.heap.size := Nat.le_trans hsz hb2.size
          clear hown hbe hb2 hsz
          go_wp2_with (at_builtin; refine wpList_append_own _ rfl _ _ 26 rfl w.heap.size 9 i0 (.string ⟨#[]⟩) 1 16 Try.underlying26 hi hz0 hz1 hz2 rfl (by decide) _ _ _ rfl (hown2.alloc _) ⟨w2.heap.size, 0, none⟩ 1 1 [.string t] rfl rfl (cell_one_new _ _ _) ?c2 ?c3 ?c4 ?c5 ?_)
          case c2 => intro u hu; simp at hu; subst hu; rfl
          case c3 => unfold maxLen; omega
          case c4 => omega
          case c5 => simp; omega
          intro v' w3 hown' hgrow _
          obtain ⟨R1, R2, R3⟩ := step_str hsz2 hown2 hbe2 hown' hgrow
          clear hown' hgrow hown2 hbe2 hsz2
          go_wp2
          go_roundw
          case rel => exact ⟨acc ++ [t], m, a', by simp; omega, rfl, hrg2.1, hrg2.2, HR2.out, R1, R2, R3⟩
          case measure =>
            obtain ⟨ao', cap', hv'⟩ := slice_of_own R1
            rw [hv']
            simp
            omega
      · have hm0 : m = 0 := by omega
        subst hm0
        have HS := HN.out acc a HR.out.done
        clear HR
        by_cases hend : a = (s.size : Int)
        · have HS2 : Hid (getTs s = (acc, true)) := HS.trans (if_pos hend)
          clear HS
          subst hend
          go_wp2
          go_ret2
          rw [HS2.out]
          exact ⟨_, rfl, hown, hbe⟩
        · have HS2 : Hid (getTs s = ([], false)) := HS.trans (if_neg hend)
          clear HS
          go_wp2
          go_ret2
          rw [HS2.out]
          exact ⟨_, rfl, World.ownsRow_nil _ _ _ _, hbe⟩

set_option maxHeartbeats 800000 in
set_option maxRecDepth 100000 in
theorem specGetTexts (s : ByteArray) (w : World) (hs : s.size ≤ 140737488355328) :
    Calls Try.prog 16 #[.string s] w fun e w' => ∃ v, e = .returned (.tuple #[v, .bool (getTs s).2]) ∧ w'.ownsRow w.heap.size 9 1 v (getTs s).1.length (strV (getTs s).1) ∧ Below w.heap.size w w' := by
  obtain ⟨i0, hi, hz0, hz1, hz2⟩ := info_parts Try.infoString
  have hr := getNI_range s 0
  have HG : Hid (∀ wx : World, Calls Try.prog 22 #[.string s, .int .i64 0] wx fun e w' => e = .returned (.tuple #[.int .i64 (getNI s 0).1, .int .i64 (getNI s 0).2]) ∧ Below wx.heap.size wx w') := fun wx => specGetNum s 0 wx hs (by decide)
  have HX : Hid (∀ (i : Int) (wx : World), i ≤ 9223372036854775807 → Calls Try.prog 23 #[.string s, .int .i64 i] wx fun e w' => e = .returned (.tuple #[.string (getTI s i).1, .int .i64 (getTI s i).2]) ∧ Below wx.heap.size wx w') := fun i wx h => specGetText s i wx hs h
  by_cases hbad : (getNI s 0).2 < 0 ∨ 200 < (getNI s 0).1
  · have hres : getTs s = ([], false) := if_pos hbad
    rw [hres]
    generalize getNI s 0 = r at *
    obtain ⟨n, a⟩ := r
    simp only at hbad HG
    clear hr
    by_cases h1 : a < 0
    · clear hbad
      go_enter Try.func16, Try.ntmps16
      go_wp2_with (go_at_call 22; refine (HG.out _).mono ?_; rintro e w1 ⟨rfl, hb1⟩)
      go_ret2
      exact ⟨_, rfl, World.ownsRow_made w1 #[] 0 hb1.size (by decide) rfl, hb1.alloc hb1.size _⟩
    · have h2 : 200 < n := by omega
      clear hbad
      go_enter Try.func16, Try.ntmps16
      go_wp2_with (go_at_call 22; refine (HG.out _).mono ?_; rintro e w1 ⟨rfl, hb1⟩)
      go_ret2
      exact ⟨_, rfl, World.ownsRow_made w1 #[] 0 hb1.size (by decide) rfl, hb1.alloc hb1.size _⟩
  · have HN : Hid (∀ acc a, getTsL s (getNI s 0).1.toNat (getNI s 0).2 = some (acc, a) → getTs s = if a = (s.size : Int) then (acc, true) else ([], false)) := fun acc a h => getTs_some hbad h
    have HO : Hid (getTsL s (getNI s 0).1.toNat (getNI s 0).2 = none → getTs s = ([], false)) := fun h => getTs_no hbad h
    have hr2 : 0 ≤ (getNI s 0).1 ∧ (getNI s 0).1 ≤ 200 ∧ 1 ≤ (getNI s 0).2 ∧ (getNI s 0).2 ≤ s.size := by
      rcases hr with h | h
      · rw [h] at hbad; simp at hbad
      · omega
    clear hr hbad
    generalize getNI s 0 = r at *
    obtain ⟨n, a0⟩ := r
    simp only at hr2 HG HN HO
    obtain ⟨h1, h2, h3, h4⟩ := hr2
    obtain ⟨N, rfl⟩ := Int.eq_ofNat_of_zero_le h1
    rw [Int.toNat_natCast] at HN HO
    have hd : decide ((200 : Int) < N) = false := by simp; omega
    have hd0 : ¬ a0 < 0 := by omega
    go_enter Try.func16, Try.ntmps16
    go_wp2_with (go_at_call 22; refine (HG.out _).mono ?_; rintro e w1 ⟨rfl, hb1⟩)
    go_loopw [5, 6, 7] (fun x v i wr => ∃ (acc : List ByteArray) (m : Nat) (a : Int), acc.length + m = N ∧ i = .int .i64 (acc.length : Nat) ∧ x = .int .i64 a ∧ 1 ≤ a ∧ a ≤ s.size ∧ Rest s acc m a N a0 ∧ wr.ownsRow w.heap.size 9 1 v acc.length (strV acc) ∧ Below w.heap.size w wr ∧ w.heap.size ≤ wr.heap.size)
      (fun _ _ i _ => N - (intOf i).toNat)
    case atStart => exact ⟨[], N, a0, by simp, rfl, rfl, h3, h4, Rest.start s N a0, World.ownsRow_made w1 #[] 0 hb1.size (by decide) rfl, hb1.alloc hb1.size _, by have := hb1.size; simp; omega⟩
    case round =>
      obtain ⟨acc, m, a, hm, rfl, rfl, ha1, ha2, hrest, hown, hbe, hsz⟩ := hrel
      clear hb1
      have HR : Hid (Rest s acc m a N a0) := hrest
      clear hrest
      obtain ⟨ao, cap, hv⟩ := slice_of_own hown
      subst hv
      by_cases hlt : acc.length < N
      · obtain ⟨m, rfl⟩ : ∃ q, m = q + 1 := ⟨m - 1, by omega⟩
        have hrg := getTI_range s a
        have HP : Hid (∀ wx : World, Calls Try.prog 23 #[.string s, .int .i64 a] wx fun e w' => e = .returned (.tuple #[.string (getTI s a).1, .int .i64 (getTI s a).2]) ∧ Below wx.heap.size wx w') := fun wx => HX.out a wx (by omega)
        by_cases hp : (getTI s a).2 < 0
        · have HF : Hid (getTs s = ([], false)) := HO.out (HR.out.no hp)
          generalize getTI s a = r at *
          obtain ⟨t, a'⟩ := r
          simp only at hp hrg HP
          clear hrg HR
          go_wp2_with (go_at_call 23; refine (HP.out _).mono ?_; rintro e w2 ⟨rfl, hb2⟩)
          go_ret2
          rw [HF.out]
          have hbe2 : Below w.heap.size w w2 := hbe.trans (hb2.mono hsz)
          exact ⟨_, rfl, World.ownsRow_made w2 #[] 0 hbe2.size (by decide) rfl, hbe2.alloc hbe2.size _⟩
        · have HR2 : Hid (Rest s (acc ++ [(getTI s a).1]) m (getTI s a).2 N a0) := HR.out.go hp
          have hrg2 : 1 ≤ (getTI s a).2 ∧ (getTI s a).2 ≤ s.size := by omega
          generalize getTI s a = r at *
          obtain ⟨t, a'⟩ := r
          simp only at hp hrg2 HP HR2
          clear hrg HR
          go_wp2_with fail
          refine (HP.out _).mono ?_
          rintro e w2 ⟨rfl, hb2⟩
          have hown2 := own_below hown hb2
          have hbe2 : Below w.heap.size w w2 := hbe.trans (hb2.mono hsz)
          have hsz2 : w.heap.size ≤ w2.heap.size := Nat.le_trans hsz hb2.size
          clear hown hbe hb2 hsz
          go_wp2_with (at_builtin; refine wpList_append_own _ rfl _ _ 26 rfl w.heap.size 9 i0 (.string ⟨#[]⟩) 1 16 Try.underlying26 hi hz0 hz1 hz2 rfl (by decide) _ _ _ rfl (hown2.alloc _) ⟨w2.heap.size, 0, none⟩ 1 1 [.string t] rfl rfl (cell_one_new _ _ _) ?c2 ?c3 ?c4 ?c5 ?_)
          case c2 => intro u hu; simp at hu; subst hu; rfl
          case c3 => unfold maxLen; omega
          case c4 => omega
          case c5 => simp; omega
          intro v' w3 hown' hgrow _
          obtain ⟨R1, R2, R3⟩ := step_str hsz2 hown2 hbe2 hown' hgrow
          clear hown' hgrow hown2 hbe2 hsz2
          go_wp2
          go_roundw
          case rel => exact ⟨acc ++ [t], m, a', by simp; omega, by simp, rfl, hrg2.1, hrg2.2, HR2.out, R1, R2, R3⟩
          case measure => simp [intOf]; omega
      · have hm0 : m = 0 := by omega
        subst hm0
        have HS := HN.out acc a HR.out.done
        clear HR
        by_cases hend : a = (s.size : Int)
        · have HS2 : Hid (getTs s = (acc, true)) := HS.trans (if_pos hend)
          clear HS
          subst hend
          go_wp2
          go_ret2
          rw [HS2.out]
          exact ⟨_, rfl, hown, hbe⟩
        · have HS2 : Hid (getTs s = ([], false)) := HS.trans (if_neg hend)
          clear HS
          go_wp2
          go_ret2
          rw [HS2.out]
          exact ⟨_, rfl, World.ownsRow_made _ #[] 0 hbe.size (by decide) rfl, hbe.alloc hbe.size _⟩

end Go.Proofs.Yticcdaohpbkjeaa
