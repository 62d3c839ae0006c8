/-
 Plain mathematics of numbers as bytes of seven bits: no program in sight.
-/
import Derived.Laws.BytesArg
import Derived.Test.YtbojmbeopnlmiaaGreatDoorTab4
namespace Go.Proofs.YtbojmbeopnlmiaaGreatDoor.Plain
def encF : Nat → Nat → List Nat
 | 0, n => [n]
 | f + 1, n => if n < 128 then [n] else (n % 128 + 128) :: encF f (n / 128)
theorem encF_small (f n : Nat) (h : n < 128) : encF f n = [n] := by
 cases f with
 | zero => rfl
 | succ f => simp [encF, h]
theorem encF_big (f n : Nat) (h : 128 ≤ n) : encF (f + 1) n = (n % 128 + 128) :: encF f (n / 128) := by
 have : ¬ n < 128 := by omega
 simp [encF, this]
theorem encF_length (f n : Nat) : 1 ≤ (encF f n).length ∧ (encF f n).length ≤ f + 1 := by
 induction f generalizing n with
 | zero => simp [encF]
 | succ f ih =>
  by_cases hn : n < 128
  ·rw [encF_small _ _ hn]; simp
  ·rw [encF_big _ _ (by omega)]; have := ih (n / 128); simp; omega
end Go.Proofs.YtbojmbeopnlmiaaGreatDoor.Plain
namespace Go.Proofs.YtbojmbeopnlmiaaGreatDoor
open Go.RowKit
theorem Tryz.infoByte : (Tryz.prog.info? 5).map (fun i => (i.zero, i.size, i.bytes)) = some (some (.int .u8 0), 1, 1) := by kernel_rfl
def ints (l : List Nat) : List Int := l.map fun (x : Nat) => (x : Int)
def cellsOf (l : List Nat) : List Value := (ints l).map (Value.int .u8)
theorem step_own {B e : Nat} {w wr w1 : World} {v v' : Value} {o : Obj} {pre : List Nat} {b : Nat} (hBw : B ≤ wr.heap.size)
  (hown : wr.ownsRow B e 1 v pre.length (cellsOf pre)) (hnx : Below B w wr)
  (hown' : w1.ownsRow B e 1 v' (pre.length + 1) (cellsOf pre ++ [.int .u8 (b : Int)])) (hgrow : (wr.alloc o).grownBy w1 v.ownBlock) :
  w1.ownsRow B e 1 v' (pre ++ [b]).length (cellsOf (pre ++ [b])) ∧ Below B w w1 ∧ B ≤ w1.heap.size := by
 have hB1 : Below B w w1 := (hnx.alloc (by omega) o).grown hgrow (by simp; omega) (fun j hj => (hown.lt j hj).1)
 refine ⟨by simpa [cellsOf, ints] using hown', hB1, ?_⟩
 have := hgrow.size
 simp at this
 omega
theorem conv_own {P : Program} {B e src dst : Nat} {w1 : World} {v : Value} {l : List Nat} (hs : P.underlying src = some (.slice e)) (he : P.underlying e = some (.int .u8)) (hd : P.underlying dst = some .string)
  (hown : w1.ownsRow B e 1 v l.length (cellsOf l)) (hne : l ≠ []) : (convert src dst v).run P w1 = .ok (.string (strOfNums (ints l))) w1 := by
 have h0 := hown
 rcases hown.2 with ⟨_, h⟩ | ⟨g, cap, cur, rfl, hg, hh, hnc, hcp, hcs, htake⟩
 ·exact absurd (List.length_eq_zero_iff.1 h) hne
 ·refine run_convert_bytes_arg w1 src e hs he g 0 l.length cap (ints l) (by simp [ints]) (fun i hi => ?_) dst hd
  rw [Nat.zero_add]
  have := h0.cellAt i (by simpa using hi)
  rw [this]
  simp [cellsOf, ints, hi]
set_option maxHeartbeats 400000 in
set_option maxRecDepth 100000 in
theorem implPutNum_yes (n0 : Nat) (w : World) (h : n0 ≤ 999999999) :
  Calls Tryz.prog 46 #[.int .i64 n0] w fun e w' => e = .returned (.string (strOfNums (ints (Plain.encF 4 n0)))) ∧ Below w.heap.size w w' := by
 obtain ⟨i0, hi, hz0, hz1, hz2⟩ := info_parts Tryz.infoByte
 have h0 : ¬ (n0 : Int) < 0 := by omega
 have h1 : decide ((999999999 : Int) < n0) = false := by simp; omega
 go_enter Tryz.func46, Tryz.ntmps46
 go_wp2
 go_loopw [0, 3] (fun i v wr => ∃ (k f : Nat) (pre : List Nat), i = .int .i64 k ∧ k < 128 ^ (f + 1) ∧ pre.length + f = 4 ∧ pre ++ Plain.encF f k = Plain.encF 4 n0 ∧ wr.ownsRow w.heap.size 5 1 v pre.length (cellsOf pre) ∧ Below w.heap.size w wr ∧ w.heap.size ≤ wr.heap.size)
  (fun i _ _ => (intOf i).toNat)
 case atStart => exact ⟨n0, 4, [], rfl, by omega, rfl, rfl, World.ownsRow_nil _ _ _ _, Below.refl _ _, Nat.le_refl _⟩
 case round =>
  obtain ⟨k, f, pre, rfl, hk, hlen, henc, hown, hnx, hsz⟩ := hrel
  have hkk : k < 34359738368 := by
   have : 128 ^ (f + 1) ≤ 128 ^ 5 := Nat.pow_le_pow_right (by omega) (by omega)
   omega
  have HE : Hid (pre ++ Plain.encF f k = Plain.encF 4 n0) := henc
  have HK : Hid (k < 128 ^ (f + 1)) := hk
  clear henc hk
  by_cases hlt : 128 ≤ k
  ·go_wp2_with (at_builtin; refine wpList_append_own _ rfl _ _ 51 rfl w.heap.size 5 i0 (.int .u8 0) 1 1 Tryz.underlying51 hi hz0 hz1 hz2 rfl (by decide) _ _ _ rfl (hown.alloc _) ⟨wr.heap.size, 0, none⟩ 1 1 [.int .u8 ((k : Int) % 128 + 128)] rfl rfl (cell_one_new _ _ _) ?c2 ?c3 ?c4 ?c5 ?_)
   case c2 => intro u hu; simp at hu; subst hu; rfl
   case c3 => unfold maxLen; omega
   case c4 => omega
   case c5 => simp; omega
   intro v' w1 hown' hgrow _
   have hcast : ((k : Int) % 128 + 128) = ((k % 128 + 128 : Nat) : Int) := by omega
   rw [hcast] at hown'
   obtain ⟨R1, R2, R3⟩ := step_own hsz hown hnx hown' hgrow
   clear hown' hgrow hown hcast
   obtain ⟨f, rfl⟩ : ∃ g, f = g + 1 := by
    cases f with
    | zero => have := HK.out; omega
    | succ g => exact ⟨g, rfl⟩
   have HK2 : Hid (k / 128 < 128 ^ (f + 1)) := by
    have h2 : k < 128 ^ (f + 1 + 1) := HK.out
    rw [Nat.pow_succ] at h2
    exact Nat.div_lt_of_lt_mul (by omega)
   have HE2 : Hid ((pre ++ [k % 128 + 128]) ++ Plain.encF f (k / 128) = Plain.encF 4 n0) := by
    have h2 : pre ++ Plain.encF (f + 1) k = Plain.encF 4 n0 := HE.out
    rw [Plain.encF_big _ _ hlt] at h2
    rw [List.append_assoc]
    exact h2
   clear HK HE
   go_wp2
   go_roundw
   case rel => exact ⟨k / 128, f, pre ++ [k % 128 + 128], by go_num, HK2.out, by simp; omega, HE2.out, R1, R2, R3⟩
   case measure => simp [intOf]; omega
  ·go_wp2_with (at_builtin; refine wpList_append_own _ rfl _ _ 51 rfl w.heap.size 5 i0 (.int .u8 0) 1 1 Tryz.underlying51 hi hz0 hz1 hz2 rfl (by decide) _ _ _ rfl (hown.alloc _) ⟨wr.heap.size, 0, none⟩ 1 1 [.int .u8 (k : Int)] rfl rfl (cell_one_new _ _ _) ?c2 ?c3 ?c4 ?c5 ?_)
   case c2 => intro u hu; simp at hu; subst hu; rfl
   case c3 => unfold maxLen; omega
   case c4 => omega
   case c5 => simp; omega
   intro v' w1 hown' hgrow _
   obtain ⟨R1, R2, R3⟩ := step_own hsz hown hnx hown' hgrow
   have hcv := conv_own (dst := 9) Tryz.underlying51 Tryz.underlying5 Tryz.underlying9 R1 (by simp)
   have HF : Hid (pre ++ [k] = Plain.encF 4 n0) := by
    have h2 : pre ++ Plain.encF f k = Plain.encF 4 n0 := HE.out
    rw [Plain.encF_small _ _ (by omega)] at h2
    exact h2
   clear hown' hgrow hown HE R1
   go_wp2
   go_ret
   exact ⟨by rw [HF.out]; rfl, R2⟩
theorem l01In_yes (x a b : Int) (w : World) (h1 : a ≤ x) (h2 : x ≤ b) :
  Calls Tryz.prog 65 #[.int .i64 x, .int .i64 a, .int .i64 b] w fun e w' => e = .returned (.bool true) ∧ w = w' := by
 go_enter Tryz.func65, Tryz.ntmps65
 go_wp2
 go_ret
 exact ⟨rfl, rfl⟩
set_option maxHeartbeats 400000 in
set_option maxRecDepth 100000 in
theorem specPutNum_yes (n0 : Nat) (w : World) (h : n0 ≤ 999999999) :
  Calls Tryz.prog 39 #[.int .i64 n0] w fun e w' => e = .returned (.string (strOfNums (ints (Plain.encF 4 n0)))) ∧ Below w.heap.size w w' := by
 obtain ⟨i0, hi, hz0, hz1, hz2⟩ := info_parts Tryz.infoByte
 have h0 : (0 : Int) ≤ n0 := by omega
 have h1 : (n0 : Int) ≤ 999999999 := by omega
 go_enter Tryz.func39, Tryz.ntmps39
 go_wp2_with (go_at_call 65; refine (l01In_yes _ _ _ _ h0 h1).mono ?_; rintro e w' ⟨rfl, rfl⟩)
 go_loopw [0, 3] (fun i v wr => ∃ (k f : Nat) (pre : List Nat), i = .int .i64 k ∧ k < 128 ^ (f + 1) ∧ pre.length + f = 4 ∧ pre ++ Plain.encF f k = Plain.encF 4 n0 ∧ wr.ownsRow w.heap.size 5 1 v pre.length (cellsOf pre) ∧ Below w.heap.size w wr ∧ w.heap.size ≤ wr.heap.size)
  (fun i _ _ => (intOf i).toNat)
 case atStart => exact ⟨n0, 4, [], rfl, by omega, rfl, rfl, World.ownsRow_made w #[] 0 (Nat.le_refl _) (by decide) rfl, (Below.refl _ _).alloc (Nat.le_refl _) _, by simp⟩
 case round =>
  obtain ⟨k, f, pre, rfl, hk, hlen, henc, hown, hnx, hsz⟩ := hrel
  have hkk : k < 34359738368 := by
   have : 128 ^ (f + 1) ≤ 128 ^ 5 := Nat.pow_le_pow_right (by omega) (by omega)
   omega
  have HE : Hid (pre ++ Plain.encF f k = Plain.encF 4 n0) := henc
  have HK : Hid (k < 128 ^ (f + 1)) := hk
  clear henc hk
  by_cases hlt : 128 ≤ k
  ·go_wp2_with (at_builtin; refine wpList_append_own _ rfl _ _ 51 rfl w.heap.size 5 i0 (.int .u8 0) 1 1 Tryz.underlying51 hi hz0 hz1 hz2 rfl (by decide) _ _ _ rfl (hown.alloc _) ⟨wr.heap.size, 0, none⟩ 1 1 [.int .u8 (128 + (k : Int) % 128)] rfl rfl (cell_one_new _ _ _) ?c2 ?c3 ?c4 ?c5 ?_)
   case c2 => intro u hu; simp at hu; subst hu; rfl
   case c3 => unfold maxLen; omega
   case c4 => omega
   case c5 => simp; omega
   intro v' w1 hown' hgrow _
   have hcast : (128 + (k : Int) % 128) = ((k % 128 + 128 : Nat) : Int) := by omega
   rw [hcast] at hown'
   obtain ⟨R1, R2, R3⟩ := step_own hsz hown hnx hown' hgrow
   clear hown' hgrow hown hcast
   obtain ⟨f, rfl⟩ : ∃ g, f = g + 1 := by
    cases f with
    | zero => have := HK.out; omega
    | succ g => exact ⟨g, rfl⟩
   have HK2 : Hid (k / 128 < 128 ^ (f + 1)) := by
    have h2 : k < 128 ^ (f + 1 + 1) := HK.out
    rw [Nat.pow_succ] at h2
    exact Nat.div_lt_of_lt_mul (by omega)
   have HE2 : Hid ((pre ++ [k % 128 + 128]) ++ Plain.encF f (k / 128) = Plain.encF 4 n0) := by
    have h2 : pre ++ Plain.encF (f + 1) k = Plain.encF 4 n0 := HE.out
    rw [Plain.encF_big _ _ hlt] at h2
    rw [List.append_assoc]
    exact h2
   clear HK HE
   go_wp2
   go_roundw
   case rel => exact ⟨k / 128, f, pre ++ [k % 128 + 128], by go_num, HK2.out, by simp; omega, HE2.out, R1, R2, R3⟩
   case measure => simp [intOf]; omega
  ·go_wp2_with (at_builtin; refine wpList_append_own _ rfl _ _ 51 rfl w.heap.size 5 i0 (.int .u8 0) 1 1 Tryz.underlying51 hi hz0 hz1 hz2 rfl (by decide) _ _ _ rfl (hown.alloc _) ⟨wr.heap.size, 0, none⟩ 1 1 [.int .u8 (k : Int)] rfl rfl (cell_one_new _ _ _) ?c2 ?c3 ?c4 ?c5 ?_)
   case c2 => intro u hu; simp at hu; subst hu; rfl
   case c3 => unfold maxLen; omega
   case c4 => omega
   case c5 => simp; omega
   intro v' w1 hown' hgrow _
   obtain ⟨R1, R2, R3⟩ := step_own hsz hown hnx hown' hgrow
   have hcv := conv_own (dst := 9) Tryz.underlying51 Tryz.underlying5 Tryz.underlying9 R1 (by simp)
   have HF : Hid (pre ++ [k] = Plain.encF 4 n0) := by
    have h2 : pre ++ Plain.encF f k = Plain.encF 4 n0 := HE.out
    rw [Plain.encF_small _ _ (by omega)] at h2
    exact h2
   clear hown' hgrow hown HE R1
   go_wp2
   go_ret
   exact ⟨by rw [HF.out]; rfl, R2⟩
end Go.Proofs.YtbojmbeopnlmiaaGreatDoor
namespace Go.Proofs.YtbojmbeopnlmiaaGreatDoor
open Go.Shelf Go.RowKit
def Tryz.shelfRen : Go.Shelf.Ren := ⟨fun | 165 => 87 | 166 => 88 | 169 => 89 | 240 => 113 | 241 => 114 | 276 => 138 | 277 => 139 | n => n, fun | 0 => 0 | 3 => 3 | 4 => 4 | 5 => 5 | 9 => 9 | 20 => 20 | 37 => 51 | 70 => 116 | 72 => 118 | 75 => 121 | 80 => 124 | 127 => 153 | 164 => 182 | n => n, fun | n => n⟩
theorem Tryz.lays165 : Go.Proofs.Lays.n165 Tryz.prog Tryz.shelfRen := {
 mixed := by kernel_rfl
 f165 := Tryz.func87.trans (congrArg some (by kernel_rfl))
 f240 := Tryz.func113.trans (congrArg some (by kernel_rfl))
 f241 := Tryz.func114.trans (congrArg some (by kernel_rfl))
 f276 := Tryz.func138.trans (congrArg some (by kernel_rfl))
 f277 := Tryz.func139.trans (congrArg some (by kernel_rfl))
 t0 := Tryz.underlying0
 a0 := Tryz.isAgg0
 z0 := Tryz.sizeOf0
 v0 := Tryz.zeroValue0
 t3 := Tryz.underlying3
 a3 := Tryz.isAgg3
 z3 := Tryz.sizeOf3
 v3 := Tryz.zeroValue3
 t4 := Tryz.underlying4
 a4 := Tryz.isAgg4
 z4 := Tryz.sizeOf4
 v4 := Tryz.zeroValue4
 t9 := Tryz.underlying9
 a9 := Tryz.isAgg9
 z9 := Tryz.sizeOf9
 v9 := Tryz.zeroValue9
 t20 := Tryz.underlying20
 a20 := Tryz.isAgg20
 z20 := Tryz.sizeOf20
 v20 := Tryz.zeroValue20
 t37 := Tryz.underlying51
 a37 := Tryz.isAgg51
 z37 := Tryz.sizeOf51
 v37 := Tryz.zeroValue51
 t70 := Tryz.underlying116
 a70 := Tryz.isAgg116
 z70 := Tryz.sizeOf116
 v70 := Tryz.zeroValue116
 t72 := Tryz.underlying118
 a72 := Tryz.isAgg118
 z72 := Tryz.sizeOf118
 v72 := Tryz.zeroValue118
 t164 := Tryz.underlying182
 a164 := Tryz.isAgg182
 z164 := Tryz.sizeOf182
 v164 := Tryz.zeroValue182 }
theorem Tryz.lays166 : Go.Proofs.Lays.n166 Tryz.prog Tryz.shelfRen := {
 mixed := by kernel_rfl
 f166 := Tryz.func88.trans (congrArg some (by kernel_rfl))
 f240 := Tryz.func113.trans (congrArg some (by kernel_rfl))
 f276 := Tryz.func138.trans (congrArg some (by kernel_rfl))
 t0 := Tryz.underlying0
 a0 := Tryz.isAgg0
 z0 := Tryz.sizeOf0
 v0 := Tryz.zeroValue0
 t3 := Tryz.underlying3
 a3 := Tryz.isAgg3
 z3 := Tryz.sizeOf3
 v3 := Tryz.zeroValue3
 t4 := Tryz.underlying4
 a4 := Tryz.isAgg4
 z4 := Tryz.sizeOf4
 v4 := Tryz.zeroValue4
 t9 := Tryz.underlying9
 a9 := Tryz.isAgg9
 z9 := Tryz.sizeOf9
 v9 := Tryz.zeroValue9
 t20 := Tryz.underlying20
 a20 := Tryz.isAgg20
 z20 := Tryz.sizeOf20
 v20 := Tryz.zeroValue20
 t37 := Tryz.underlying51
 a37 := Tryz.isAgg51
 z37 := Tryz.sizeOf51
 v37 := Tryz.zeroValue51
 t70 := Tryz.underlying116
 a70 := Tryz.isAgg116
 z70 := Tryz.sizeOf116
 v70 := Tryz.zeroValue116
 t72 := Tryz.underlying118
 a72 := Tryz.isAgg118
 z72 := Tryz.sizeOf118
 v72 := Tryz.zeroValue118
 t75 := Tryz.underlying121
 a75 := Tryz.isAgg121
 z75 := Tryz.sizeOf121
 v75 := Tryz.zeroValue121
 t164 := Tryz.underlying182
 a164 := Tryz.isAgg182
 z164 := Tryz.sizeOf182
 v164 := Tryz.zeroValue182 }
theorem Tryz.lays169 : Go.Proofs.Lays.n169 Tryz.prog Tryz.shelfRen := {
 mixed := by kernel_rfl
 f169 := Tryz.func89.trans (congrArg some (by kernel_rfl))
 t0 := Tryz.underlying0
 a0 := Tryz.isAgg0
 z0 := Tryz.sizeOf0
 v0 := Tryz.zeroValue0
 t3 := Tryz.underlying3
 a3 := Tryz.isAgg3
 z3 := Tryz.sizeOf3
 v3 := Tryz.zeroValue3
 t9 := Tryz.underlying9
 a9 := Tryz.isAgg9
 z9 := Tryz.sizeOf9
 v9 := Tryz.zeroValue9
 t37 := Tryz.underlying51
 a37 := Tryz.isAgg51
 z37 := Tryz.sizeOf51
 v37 := Tryz.zeroValue51
 t70 := Tryz.underlying116
 a70 := Tryz.isAgg116
 z70 := Tryz.sizeOf116
 v70 := Tryz.zeroValue116
 t72 := Tryz.underlying118
 a72 := Tryz.isAgg118
 z72 := Tryz.sizeOf118
 v72 := Tryz.zeroValue118
 t127 := Tryz.underlying153
 a127 := Tryz.isAgg153
 z127 := Tryz.sizeOf153
 v127 := Tryz.zeroValue153 }
theorem Tryz.shelfExtra : Builder.Extra Tryz.prog Tryz.shelfRen := {
 sizeBuilder := by kernel_rfl
 liesBuilder := by kernel_rfl
 t5 := Tryz.underlying5
 a5 := Tryz.isAgg5
 z5 := Tryz.sizeOf5
 v5 := Tryz.zeroValue5
 infoByte := by kernel_rfl
 cellsByte := by kernel_rfl
 sizeByte := by kernel_rfl
 neB5 := by decide }
theorem builder_Grow (B b n : Nat) (w : World) (hB : B ≤ b) (hbk : w.heap[b]? = some (.cells #[.pointer none, .slice none 0 0] 118 (0, 0))) (hBw : B ≤ w.heap.size) (hn : n ≤ 281474976710656) :
  Calls Tryz.prog 87 #[.pointer (some ⟨b, 0, none⟩), .int .i64 n] w fun e w' => e = .returned (.tuple #[]) ∧ (Lib.BuilderAt 118 5 B b (.pointer (some ⟨b, 0, none⟩)) [] w' ∧ Below B w w') :=
 Any.Builder_Grow_fresh Tryz.lays165 Tryz.shelfExtra B b n w hB hbk hBw hn
theorem builder_WriteString (B b : Nat) (bs : List Value) (s : ByteArray) (w : World) (h : Lib.IsBuilder 118 5 B b bs w) (hlen : bs.length + s.size ≤ 140737488355328) (hBw : B ≤ w.heap.size) :
  Calls Tryz.prog 88 #[.pointer (some ⟨b, 0, none⟩), .string s] w fun e w' => e = .returned (.tuple #[.int .i64 s.size, .nilIface]) ∧ (Lib.BuilderAt 118 5 B b (.pointer (some ⟨b, 0, none⟩)) (bs ++ Lib.strCells s) w' ∧ Below B w w') :=
 Any.Builder_WriteString Tryz.lays166 Tryz.shelfExtra B b bs s w h hlen hBw
theorem builder_String (B b : Nat) (l : List UInt8) (w : World) (h : Lib.IsBuilder 118 5 B b (Lib.byteCells l) w) (hBw : B ≤ w.heap.size) :
  Calls Tryz.prog 89 #[.pointer (some ⟨b, 0, none⟩)] w fun e w' => e = .returned (.string ⟨l.toArray⟩) ∧ Below B w w' :=
 Any.Builder_String_any Tryz.lays169 Tryz.shelfExtra B b l w h hBw
end Go.Proofs.YtbojmbeopnlmiaaGreatDoor
namespace Go.Proofs.YtbojmbeopnlmiaaGreatDoor
open Go.RowKit
def catL : List ByteArray → List UInt8
 | [] => []
 | p :: r => p.data.toList ++ catL r
theorem catL_append (a b : List ByteArray) : catL (a ++ b) = catL a ++ catL b := by
 induction a with
 | nil => rfl
 | cons p r ih => simp [catL, ih]
theorem catL_take_le (ps : List ByteArray) (k : Nat) : (catL (ps.take k)).length ≤ (catL ps).length := by
 have := congrArg List.length (catL_append (ps.take k) (ps.drop k))
 rw [List.take_append_drop, List.length_append] at this
 omega
theorem catL_more (ps : List ByteArray) (k : Nat) (h : k < ps.length) : catL (ps.take (k + 1)) = catL (ps.take k) ++ ps[k].data.toList := by
 rw [List.take_succ_eq_append_getElem h, catL_append]
 simp [catL]
theorem size_list (p : ByteArray) : p.data.toList.length = p.size := rfl
set_option maxHeartbeats 400000 in
theorem implJoin (b off cap : Nat) (ps : List ByteArray) (w : World) (hc : ∀ j (h : j < ps.length), w.cell? ⟨b, off + j, none⟩ = some (.string ps[j])) (hsum : (catL ps).length ≤ 140737488355328) (hlen : ps.length ≤ 140737488355328) :
  Calls Tryz.prog 60 #[.slice (some ⟨b, off, none⟩) ps.length cap] w fun e w' => e = .returned (.string ⟨(catL ps).toArray⟩) ∧ Below w.heap.size w w' := by
 have HC : Hid (∀ j (h : j < ps.length), w.cell? ⟨b, off + j, none⟩ = some (.string ps[j])) := hc
 clear hc
 go_enter Tryz.func60, Tryz.ntmps60
 go_wp2
 go_loop [3, 11] (fun z i => ∃ k : Nat, k ≤ ps.length ∧ i = .int .i64 k ∧ z = .int .i64 ((catL (ps.take k)).length : Nat)) (fun _ i => ps.length - (intOf i).toNat)
 case atStart => exact ⟨0, Nat.zero_le _, rfl, by simp [catL]⟩
 case round =>
  obtain ⟨k, hk, rfl, rfl⟩ := hrel
  by_cases hlt : k < ps.length
  ·have hcell := HC.out k hlt
   have HM : Hid (catL (ps.take (k + 1)) = catL (ps.take k) ++ ps[k].data.toList) := catL_more ps k hlt
   have HT := catL_take_le ps (k + 1)
   rw [HM.out, List.length_append, size_list] at HT
   generalize hp : ps[k] = p at *
   generalize hcl : (catL (ps.take k)).length = c at *
   have HP : Hid (ps[k] = p) := hp
   have HCL : Hid ((catL (ps.take k)).length = c) := hcl
   clear hp hcl
   go_wp2
   go_round
   case rel => exact ⟨k + 1, by omega, by go_num, by rw [HM.out, List.length_append, HCL.out, size_list]; go_num⟩
   case measure => simp [intOf]; omega
  ·have hke : k = ps.length := by omega
   subst hke
   rw [List.take_of_length_le (Nat.le_refl _)]
   go_wp2_with fail
   refine (builder_Grow w.heap.size w.heap.size (catL ps).length _ (Nat.le_refl _) (heap_alloc_new w _) (by simp) (by omega)).mono ?_
   rintro e w1 ⟨rfl, hB1, hb1⟩
   have hbel : Below w.heap.size w w1 := ((Below.refl _ _).alloc (Nat.le_refl _) _).trans hb1
   have hsz1 : w.heap.size ≤ w1.heap.size := hbel.size
   clear hb1
   go_wp2_with fail
   go_loopw [24] (fun i wr => ∃ k : Nat, k ≤ ps.length ∧ i = .int .i64 k ∧ Lib.IsBuilder 118 5 w.heap.size w.heap.size (Lib.byteCells (catL (ps.take k))) wr ∧ Below w.heap.size w wr ∧ w.heap.size ≤ wr.heap.size) (fun i _ => ps.length - (intOf i).toNat)
   case atStart => exact ⟨0, Nat.zero_le _, rfl, .inr hB1, hbel, hsz1⟩
   case round =>
    obtain ⟨k, hk, rfl, hbu, hbe, hsz⟩ := hrel
    clear hB1 hbel hsz1
    by_cases hlt : k < ps.length
    ·have hc0 := HC.out k hlt
     have hblt : b < w.heap.size := World.block_lt_of_cell? w ⟨b, off + k, none⟩ hc0
     have hcell := (hbe.cell (p := ⟨b, off + k, none⟩) hblt).trans hc0
     have HM : Hid (catL (ps.take (k + 1)) = catL (ps.take k) ++ ps[k].data.toList) := catL_more ps k hlt
     have HT := catL_take_le ps (k + 1)
     rw [HM.out, List.length_append, size_list] at HT
     generalize hp : ps[k] = p at *
     have HP : Hid (ps[k] = p) := hp
     clear hp hc0
     go_wp2_with (go_at_call 88; refine (builder_WriteString w.heap.size w.heap.size _ p _ hbu (by rw [Lib.byteCells_length]; omega) hsz).mono ?_; rintro e w2 ⟨rfl, hB2, hb2⟩)
     have hR : Lib.IsBuilder 118 5 w.heap.size w.heap.size (Lib.byteCells (catL (ps.take (k + 1)))) w2 := by
      rw [HM.out]
      have e1 : Lib.byteCells (catL (ps.take k) ++ p.data.toList) = Lib.byteCells (catL (ps.take k)) ++ Lib.strCells p := by simp [Lib.byteCells, Lib.strCells]
      rw [e1]
      exact .inr hB2
     go_roundw
     case rel => exact ⟨k + 1, by omega, by go_num, hR, hbe.trans hb2, Nat.le_trans hsz hb2.size⟩
     case measure => simp [intOf]; omega
    ·have hke : k = ps.length := by omega
     subst hke
     rw [List.take_of_length_le (Nat.le_refl _)] at hbu
     go_wp2_with (go_at_call 89; refine (builder_String w.heap.size w.heap.size (catL ps) _ hbu hsz).mono ?_; rintro e w2 ⟨rfl, hb2⟩)
     go_ret
     exact ⟨rfl, hbe.trans hb2⟩
def numB (n : Nat) : ByteArray := strOfNums (ints (Plain.encF 4 n))
theorem numB_size (n : Nat) : (numB n).size ≤ 5 := by
 have := (Plain.encF_length 4 n).2
 simp [numB, strOfNums_size, ints]
 omega
def putT (s : ByteArray) : ByteArray := if 10000000 < s.size then ⟨#[]⟩ else numB s.size ++ s
theorem cat_two (a b : ByteArray) : (⟨(catL [a, b]).toArray⟩ : ByteArray) = a ++ b := by
 apply ByteArray.ext
 simp [catL]
theorem two_cells (w : World) (a b : ByteArray) : ∀ j (h : j < [a, b].length), (w.alloc (Obj.cells #[Value.string a, Value.string b] 9)).cell? ⟨w.heap.size, 0 + j, none⟩ = some (.string [a, b][j]) := by
 intro j h
 match j, h with
 | 0, _ => simp
 | 1, _ => simp
set_option maxHeartbeats 400000 in
theorem specPutText (s : ByteArray) (w : World) (hs : s.size ≤ 140737488355328) :
  Calls Tryz.prog 31 #[.string s] w fun e w' => e = .returned (.string (putT s)) ∧ Below w.heap.size w w' := by
 by_cases h : 10000000 < s.size
 ·rw [show putT s = ⟨#[]⟩ from if_pos h]
  go_enter Tryz.func31, Tryz.ntmps31
  go_wp2
  go_ret
  exact ⟨rfl, Below.refl _ _⟩
 ·rw [show putT s = numB s.size ++ s from if_neg h]
  have h9 : s.size ≤ 999999999 := by omega
  have hv := numB_size s.size
  have HN : Hid (∀ wx : World, Calls Tryz.prog 39 #[.int .i64 (s.size : Int)] wx fun e w' => e = .returned (.string (numB s.size)) ∧ Below wx.heap.size wx w') := fun wx => specPutNum_yes s.size wx h9
  generalize numB s.size = V at *
  go_enter Tryz.func31, Tryz.ntmps31
  go_wp2_with (go_at_call 39; refine (HN.out _).mono ?_; rintro e w1 ⟨rfl, hb⟩)
  go_ret
  exact ⟨rfl, hb⟩
set_option maxHeartbeats 400000 in
theorem implPutText (s : ByteArray) (w : World) (hs : s.size ≤ 140737488355328) :
  Calls Tryz.prog 45 #[.string s] w fun e w' => e = .returned (.string (putT s)) ∧ Below w.heap.size w w' := by
 by_cases h : 10000000 < s.size
 ·rw [show putT s = ⟨#[]⟩ from if_pos h]
  go_enter Tryz.func45, Tryz.ntmps45
  go_wp2
  go_ret
  exact ⟨rfl, Below.refl _ _⟩
 ·rw [show putT s = numB s.size ++ s from if_neg h]
  have h9 : s.size ≤ 999999999 := by omega
  have hv := numB_size s.size
  have HN : Hid (∀ wx : World, Calls Tryz.prog 46 #[.int .i64 (s.size : Int)] wx fun e w' => e = .returned (.string (numB s.size)) ∧ Below wx.heap.size wx w') := fun wx => implPutNum_yes s.size wx h9
  generalize numB s.size = V at *
  go_enter Tryz.func45, Tryz.ntmps45
  go_wp2_with (go_at_call 46; refine (HN.out _).mono ?_; rintro e w1 ⟨rfl, hb⟩)
  have hJ := implJoin w1.heap.size 0 2 [V, s] (w1.alloc (Obj.cells #[Value.string V, Value.string s] 9)) (two_cells w1 V s) (by simp [catL]; omega) (by simp)
  rw [cat_two] at hJ
  refine hJ.mono ?_
  rintro e w2 ⟨rfl, hb2⟩
  have hbe : Below w.heap.size w w2 := (hb.alloc hb.size _).trans (hb2.mono (by have := hb.size; simp; omega))
  clear hJ hb hb2
  go_wp2
  go_ret
  exact ⟨rfl, hbe⟩
def putRow (f : Ty → List UInt8) (named : Bool) : List ByteArray → List Ty → List UInt8
 | _, [] => []
 | ns, k :: ks => (if named then bt (putT (ns.headD ⟨#[]⟩)) else []) ++ f k ++ putRow f named ns.tail ks
def putTy : Nat → Ty → List UInt8
 | 0, _ => []
 | n + 1, t => UInt8.ofNat t.kind.toNat :: (if t.kind ≤ 3 then [] else if t.kind = 4 then bt (putT t.name) else bt (numB t.kids.length) ++ putRow (putTy n) (decide (t.kind = 5)) t.names t.kids)
theorem putRow_more (f : Ty → List UInt8) (named : Bool) (ns : List ByteArray) (ks : List Ty) (k : Nat) (h : k < ks.length) : putRow f named ns (ks.take (k + 1)) = putRow f named ns (ks.take k) ++ ((if named then bt (putT (ns.getD k ⟨#[]⟩)) else []) ++ f ks[k]) := by
 induction k generalizing ns ks with
 | zero =>
  cases ks with
  | nil => simp at h
  | cons a r => cases ns <;> simp [putRow, List.getD]
 | succ k ih =>
  cases ks with
  | nil => simp at h
  | cons a r =>
   have hk : k < r.length := by simpa using h
   have := ih ns.tail r hk
   rw [List.take_succ_cons, List.take_succ_cons, putRow, putRow, this]
   have e : ns.tail.getD k ⟨#[]⟩ = ns.getD (k + 1) ⟨#[]⟩ := by cases ns <;> simp [List.getD]
   rw [e]
   simp [List.append_assoc]
theorem putT_size (s : ByteArray) : (bt (putT s)).length ≤ 5 + s.size := by
 unfold putT
 split
 ·simp [bt]
 ·have h1 : (bt (numB s.size ++ s)).length = (numB s.size).size + s.size := ByteArray.size_append
  have h2 := numB_size s.size
  omega
theorem putRow_size (f : Ty → List UInt8) (named : Bool) (ns : List ByteArray) (ks : List Ty) : (putRow f named ns ks).length ≤ 5 * ks.length + Ty.textsBulk ns + (ks.map fun k => (f k).length).sum := by
 induction ks generalizing ns with
 | nil => simp [putRow]
 | cons a r ih =>
  have h1 := ih ns.tail
  have h2 : (if named then bt (putT (ns.headD ⟨#[]⟩)) else []).length ≤ 5 + (ns.headD ⟨#[]⟩).size := by
   split
   ·exact putT_size _
   ·simp
  have h3 : (ns.headD ⟨#[]⟩).size + Ty.textsBulk ns.tail ≤ Ty.textsBulk ns := by
   cases ns with
   | nil => exact Nat.le_refl 0
   | cons x y => exact Nat.le_refl _
  rw [putRow, List.length_append, List.length_append, List.map_cons, List.sum_cons, List.length_cons]
  omega
theorem putTy_size (n : Nat) : ∀ t, (putTy n t).length ≤ 12 * Ty.bulk n t + 6 := by
 induction n with
 | zero => intro t; simp [putTy]
 | succ n ih =>
  intro t
  rw [putTy, List.length_cons, Ty.bulk]
  split
  ·simp
  ·split
   ·have := putT_size t.name
    omega
   ·have h1 := putRow_size (putTy n) (decide (t.kind = 5)) t.names t.kids
    have h2 : (bt (numB t.kids.length)).length ≤ 5 := numB_size _
    have h3 : (t.kids.map fun k => (putTy n k).length).sum ≤ 12 * (t.kids.map (Ty.bulk n)).sum + 6 * t.kids.length := by
     generalize t.kids = l
     induction l with
     | nil => simp
     | cons a r ihl =>
      have := ih a
      simp only [List.map_cons, List.sum_cons, List.length_cons]
      omega
    rw [List.length_append]
    omega
def mkB (l : List UInt8) : ByteArray := ⟨l.toArray⟩
theorem mkB_size (l : List UInt8) : (mkB l).size = l.length := by simp [mkB, ByteArray.size]
theorem mkB_bt (s : ByteArray) : mkB (bt s) = s := by cases s; simp [mkB, bt]
theorem bt_mkB (l : List UInt8) : bt (mkB l) = l := by simp [mkB, bt]
theorem mkB_app (l : List UInt8) (s : ByteArray) : mkB l ++ s = mkB (l ++ bt s) := by
 apply ByteArray.ext
 simp [mkB, bt]
def putTo (n : Nat) (t : Ty) (k : Nat) : List UInt8 := UInt8.ofNat t.kind.toNat :: (bt (numB t.kids.length) ++ putRow (putTy n) (decide (t.kind = 5)) t.names (t.kids.take k))
theorem putTo_more (n : Nat) (t : Ty) (k : Nat) (h : k < t.kids.length) : putTo n t (k + 1) = putTo n t k ++ ((if decide (t.kind = 5) = true then bt (putT (t.names.getD k ⟨#[]⟩)) else []) ++ putTy n t.kids[k]) := by
 unfold putTo
 rw [putRow_more _ _ _ _ _ h]
 simp [List.append_assoc]
theorem putTo_all (n : Nat) (t : Ty) (h : 4 < t.kind) : putTo n t t.kids.length = putTy (n + 1) t := by
 unfold putTo
 rw [putTy, List.take_of_length_le (Nat.le_refl _), if_neg (by omega), if_neg (by omega)]
theorem putTo_zero (n : Nat) (t : Ty) : putTo n t 0 = UInt8.ofNat t.kind.toNat :: bt (numB t.kids.length) := by
 unfold putTo
 simp [putRow]
theorem putTo_size (n : Nat) (t : Ty) (k : Nat) : (putTo n t k).length ≤ 12 * Ty.bulk (n + 1) t + 6 := by
 have h2 : (bt (numB t.kids.length)).length ≤ 5 := numB_size _
 have h3 : ((t.kids.take k).map fun q => (putTy n q).length).sum ≤ 12 * (t.kids.map (Ty.bulk n)).sum + 6 * t.kids.length := by
  generalize t.kids = l
  induction l generalizing k with
  | nil => simp
  | cons a r ihl =>
   cases k with
   | zero => simp
   | succ k =>
    have := putTy_size n a
    have := ihl k
    simp only [List.take_succ_cons, List.map_cons, List.sum_cons, List.length_cons]
    omega
 have h1 := putRow_size (putTy n) (decide (t.kind = 5)) t.names (t.kids.take k)
 have h4 : (t.kids.take k).length ≤ t.kids.length := by rw [List.length_take]; omega
 unfold putTo
 rw [List.length_cons, List.length_append, Ty.bulk]
 omega
def envTo (n : Nat) (es : List (ByteArray × Ty)) : List UInt8 := es.flatMap fun e => bt (putT e.1) ++ putTy n e.2
def envPut (n : Nat) (es : List (ByteArray × Ty)) : List UInt8 := bt (numB es.length) ++ envTo n es
def sumPut (n : Nat) (nm : ByteArray) (bad : Bool) (ts xs : List (ByteArray × Ty)) : List UInt8 := bt (putT nm) ++ ((if bad then 1 else 0) :: (envPut n ts ++ envPut n xs))
theorem envTo_more (n : Nat) (es : List (ByteArray × Ty)) (k : Nat) (h : k < es.length) : envTo n (es.take (k + 1)) = envTo n (es.take k) ++ (bt (putT es[k].1) ++ putTy n es[k].2) := by
 unfold envTo
 rw [List.take_succ_eq_append_getElem h, List.flatMap_append]
 simp
theorem envTo_size (n : Nat) (es : List (ByteArray × Ty)) : (envTo n es).length ≤ 12 * (es.map (nmBulk n)).sum + 11 * es.length := by
 induction es with
 | nil => simp [envTo]
 | cons e r ih =>
  have h1 := putT_size e.1
  have h2 := putTy_size n e.2
  have h3 : envTo n (e :: r) = (bt (putT e.1) ++ putTy n e.2) ++ envTo n r := by simp [envTo]
  rw [h3, List.length_append, List.length_append]
  simp only [List.map_cons, List.sum_cons, List.length_cons, nmBulk]
  omega
theorem envTo_size' (n : Nat) (es : List (ByteArray × Ty)) : (envTo n es).length ≤ 12 * envBulk n es := by
 have := envTo_size n es
 unfold envBulk
 omega
theorem envTo_take (n : Nat) (es : List (ByteArray × Ty)) (k : Nat) : (envTo n (es.take k)).length ≤ 12 * envBulk n es := by
 have h1 := envTo_size n (es.take k)
 have h2 := envSum_le n es k
 have h3 : (es.take k).length ≤ es.length := by rw [List.length_take]; omega
 unfold envBulk
 omega
theorem envPut_size (n : Nat) (es : List (ByteArray × Ty)) : (envPut n es).length ≤ 12 * envBulk n es + 5 := by
 have h1 := envTo_size' n es
 have h2 : (bt (numB es.length)).length ≤ 5 := numB_size _
 unfold envPut
 rw [List.length_append]
 omega
theorem sumPut_size (n : Nat) (nm : ByteArray) (bad : Bool) (ts xs : List (ByteArray × Ty)) : (sumPut n nm bad ts xs).length ≤ nm.size + 12 * envBulk n ts + 12 * envBulk n xs + 16 := by
 have h1 := putT_size nm
 have h2 := envPut_size n ts
 have h3 := envPut_size n xs
 unfold sumPut
 rw [List.length_append, List.length_cons, List.length_append]
 omega
theorem mkB_two (L : List UInt8) (X P : ByteArray) : (mkB L ++ X) ++ P = mkB (L ++ (bt X ++ bt P)) := by
 rw [mkB_app, mkB_app, List.append_assoc]
theorem sum_cat (n : Nat) (nm : ByteArray) (bad : Bool) (ts xs : List (ByteArray × Ty)) : ((putT nm ++ mkB [if bad then 1 else 0]) ++ mkB (envPut n ts)) ++ mkB (envPut n xs) = mkB (sumPut n nm bad ts xs) := by
 rw [← mkB_bt (putT nm), mkB_app, mkB_app, mkB_app]
 congr 1
 simp [sumPut, bt_mkB, List.append_assoc]
end Go.Proofs.YtbojmbeopnlmiaaGreatDoor
