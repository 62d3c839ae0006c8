/-
  The walk of spec.GetNum: it answers the number whose bytes stand at the place, and the place behind it.
-/
import Derived.Test.YtgcomgoleiehcaaGetNumW
import Derived.Deep.RegionWith
namespace Go.Proofs.Ytgcomgoleiehcaa
open Go.RowKit

theorem bytesN_inj {a b : ByteArray} (h : bytesN a = bytesN b) : a = b := by
  have h1 : a.data.toList = b.data.toList := (List.map_inj_right (fun x y e => UInt8.toNat_inj.1 e)).1 h
  have h2 : a.data = b.data := Array.toList_inj.1 h1
  cases a; cases b; simp at h2; rw [h2]

theorem list_ne {a b : ByteArray} (h : a ≠ b) : (a.toList == b.toList) = false := by
  rw [ByteArray.toList_eq, ByteArray.toList_eq]
  simp only [beq_eq_false_iff_ne, ne_eq]
  intro e
  have h2 : a.data = b.data := Array.toList_inj.1 e
  exact h (by cases a; cases b; simp at h2; rw [h2])

theorem list_some {a : ByteArray} (h : 0 < a.size) : a.toList.isEmpty = false := by
  rw [ByteArray.toList_eq]
  cases hl : a.data.toList with
  | nil =>
    have h2 : a.data.toList.length = 0 := by rw [hl]; rfl
    have h3 : a.data.toList.length = a.size := rfl
    omega
  | cons x r => rfl

theorem bytesN_str (l : List Nat) (h : ∀ x ∈ l, x < 256) : bytesN (strOfNums (ints l)) = l := by
  have : ∀ x ∈ l, (UInt8.ofNat ((x : Int).toNat)).toNat = x := fun x hx => by
    have := h x hx
    simp
    omega
  unfold bytesN
  rw [strOfNums_data, ints, List.map_map, List.map_map]
  exact (List.map_congr_left (fun x hx => this x hx)).trans (List.map_id _)

theorem bytesN_extract (s : ByteArray) (i j : Nat) : bytesN (s.extract i j) = ((bytesN s).drop i).take (j - i) := by
  simp [bytesN, List.map_take, List.map_drop]

/-- the bytes of the number are those that stand there just where none is needless -/
theorem put_is (s : ByteArray) (i k D U n : Nat) (hk : k < 5) (h5 : i + k < s.size) (HA : ∀ x ∈ ((bytesN s).drop i).take k, 128 ≤ x) (HD : Plain.dec (((bytesN s).drop i).take k) = D) (HU : 128 ^ k = U) (hb : (s[i + k].toNat : Int) < 128)
    (hn : n = D + s[i + k].toNat % 128 * U) (hM : n ≤ 999999999) :
    strOfNums (ints (Plain.encF 4 n)) = s.extract i (i + k + 1) ↔ (s[i + k].toNat ≠ 0 ∨ k = 0) := by
  have hl : i + k < (bytesN s).length := by rw [bytesN_length]; exact h5
  have hg := bytesN_get s (i + k) h5 hl
  have hd := Plain.dec_more (bytesN s) i k hl
  rw [Plain.take_more _ _ _ hl, hg, HD, HU, ← hn] at hd
  have hlen : (((bytesN s).drop i).take k).length = k := by simp; omega
  have hc : Plain.Chain (((bytesN s).drop i).take k) s[i + k].toNat := by
    refine ⟨fun x hx => ⟨HA x hx, ?_⟩, by omega⟩
    have hx2 := List.mem_of_mem_drop (List.mem_of_mem_take hx)
    simp only [bytesN, List.mem_map] at hx2
    obtain ⟨y, _, rfl⟩ := hx2
    exact UInt8.toNat_lt y
  have he := Plain.enc_dec _ _ 4 hc (by omega)
  rw [hd] at he
  have hk0 : ((bytesN s).drop i).take k = [] ↔ k = 0 := by
    rw [← List.length_eq_zero_iff, hlen]
  rw [hk0] at he
  rw [← he]
  have hx : bytesN (s.extract i (i + k + 1)) = ((bytesN s).drop i).take k ++ [s[i + k].toNat] := by
    rw [bytesN_extract, show i + k + 1 - i = k + 1 from by omega, Plain.take_more _ _ _ hl, hg]
  have hs := bytesN_str (Plain.encF 4 n) (Plain.encF_byte 4 n (by omega))
  constructor
  · intro h
    rw [← hs, h, hx]
  · intro h
    apply bytesN_inj
    rw [hs, hx, h]

set_option maxHeartbeats 400000 in
theorem specGetNum_neg (s : ByteArray) (i : Int) (w : World) (h : i < 0) :
    Calls Try.prog 10 #[.string s, .int .i64 i] w fun e w' => e = .returned (.tuple #[.int .i64 0, .int .i64 (-1)]) ∧ Below w.heap.size w w' := by
  have hd : decide ((0 : Int) ≤ i) = false := by simp; omega
  go_enter Try.func10, Try.ntmps10
  go_wp2
  refine wp_loop_rounds 1 ?_
  rw [rounds_succ]
  go_wp2
  go_ret2
  exact ⟨rfl, Below.refl _ _⟩

set_option maxHeartbeats 400000 in
set_option maxRecDepth 100000 in
theorem specGetNum_any (s : ByteArray) (i : Nat) (w : World) (hs : s.size ≤ 140737488355328) (hi : (i : Int) ≤ 9223372036854775807) :
    Calls Try.prog 10 #[.string s, .int .i64 i] w fun e w' => e = .returned (.tuple #[.int .i64 (Plain.getN (bytesN s) i).1, .int .i64 (Plain.getN (bytesN s) i).2]) ∧ Below w.heap.size w w' := by
  have hlen := bytesN_length s
  go_enter Try.func10, Try.ntmps10
  go_wp2
  go_loop [6, 7, 8] (fun n u a => ∃ k : Nat, k ≤ 5 ∧ (k = 0 ∨ i + k ≤ s.size) ∧ (∀ x ∈ ((bytesN s).drop i).take k, 128 ≤ x) ∧ n = .int .i64 (Plain.dec (((bytesN s).drop i).take k) : Nat) ∧ u = .int .i64 (128 ^ k : Nat) ∧ a = .int .i64 ((i + k : Nat) : Int))
    (fun _ _ a => i + 5 - (intOf a).toNat)
  case atStart => exact ⟨0, by omega, .inl rfl, by simp, by simp [Plain.dec], rfl, rfl⟩
  case round =>
    obtain ⟨k, hk, hik, hall, rfl, rfl, rfl⟩ := hrel
    have HA : Hid (∀ x ∈ ((bytesN s).drop i).take k, 128 ≤ x) := hall
    have hd := Plain.dec_take_lt (bytesN s) i k
    have hp : 128 ^ k ≤ 128 ^ 5 := Nat.pow_le_pow_right (by omega) hk
    clear hall
    generalize hD : Plain.dec (((bytesN s).drop i).take k) = D at *
    generalize hU : 128 ^ k = U at *
    have HD : Hid (Plain.dec (((bytesN s).drop i).take k) = D) := hD
    have HU : Hid (128 ^ k = U) := hU
    clear hD hU
    by_cases he : s.size ≤ i + k
    · go_wp2
      go_ret2
      exact ⟨by rw [Plain.getN_end _ _ k hk HA.out (.inr (by omega))]; rfl, Below.refl _ _⟩
    · by_cases he5 : k = 5
      · subst he5
        have h5 : i + 5 < s.size := by omega
        go_wp2
        go_ret2
        exact ⟨by rw [Plain.getN_end _ _ 5 hk HA.out (.inl rfl)]; rfl, Below.refl _ _⟩
      · have h5 : i + k < s.size := by omega
        have hk5 : k < 5 := by omega
        have hb : (s[i + k].toNat : Int) < 256 := by have := UInt8.toNat_lt s[i + k]; omega
        have hU5 : (U : Int) ≤ 34359738368 := by omega
        have hm0 : (0 : Int) ≤ (s[i + k].toNat : Int) % 128 * U := Int.mul_nonneg (by omega) (by omega)
        have hm1 : (s[i + k].toNat : Int) % 128 * U ≤ 127 * U := Int.mul_le_mul_of_nonneg_right (by omega) (by omega)
        have hDU : (D : Int) < U := by omega
        clear hd hp
        by_cases hc : (128 : Int) ≤ s[i + k].toNat
        · obtain ⟨g1, g2, g3⟩ := getN_go s i k D U h5 HA.out HD.out HU.out hc
          have G : Hid (_ ∧ _ ∧ _) := ⟨g1, g2, g3⟩
          clear g1 g2 g3
          go_wp2
          go_round
          case rel => exact ⟨k + 1, by omega, by omega, G.out.1, by rw [G.out.2.1], by rw [← G.out.2.2, Int.mul_comm], by go_num⟩
          case measure => simp [intOf]; omega
        · have E : Hid (Plain.getN (bytesN s) i = _) := getN_at s i k D U hk5 h5 HA.out HD.out HU.out (by omega)
          obtain ⟨T, hT⟩ : ∃ T : ByteArray, T = s.extract i (i + k + 1) := ⟨_, rfl⟩
          have hsl : ∀ wx : World, (Instr.slice 9 (.string s) (some (.int .i64 (i : Int))) (some (.int .i64 ((i : Int) + k + 1))) none).run Try.prog wx = .ok (.string T) wx := fun wx => by
            rw [run_slice_string (P := Try.prog) wx 9 s .i64 .i64 (i : Int) ((i : Int) + k + 1) Try.underlying9 (by omega) (by omega) (by omega), hT]
            rfl
          have hwr : IntKind.i64.wrap ((i : Int) + k + 1) = (i : Int) + k + 1 := IntWalk.i64_in _ ⟨by omega, by omega⟩
          have HT : Hid (T = s.extract i (i + k + 1)) := hT
          clear hT
          by_cases hM : (D : Int) + (s[i + k].toNat : Int) % 128 * U ≤ 999999999
          · obtain ⟨n, hn⟩ : ∃ n : Nat, n = D + s[i + k].toNat % 128 * U := ⟨_, rfl⟩
            have hnc : (D : Int) + (s[i + k].toNat : Int) % 128 * U = (n : Int) := by rw [hn]; simp
            have hn9 : n ≤ 999999999 := by omega
            have HI := put_is s i k D U n hk5 h5 HA.out HD.out HU.out (by omega) hn hn9
            obtain ⟨V, hV⟩ : ∃ V : ByteArray, V = strOfNums (ints (Plain.encF 4 n)) := ⟨_, rfl⟩
            have HP : Hid (∀ wx : World, Calls Try.prog 5 #[.int .i64 ((D : Int) + (s[i + k].toNat : Int) % 128 * U)] wx fun e w' => e = .returned (.string V) ∧ Below wx.heap.size wx w') := fun wx => by
              rw [hnc, hV]; exact specPutNum_yes n wx hn9
            rw [← hV, ← HT.out] at HI
            clear hV hn hnc hn9
            by_cases hVT : V = T
            · subst hVT
              have HB : Hid (s[i + k].toNat ≠ 0 ∨ k = 0) := HI.1 rfl
              clear HI
              go_wp2_with fail
              go_region_with (go_at_call 5; refine (HP.out _).mono ?_; rintro e w1 ⟨rfl, hb1⟩)
              go_wp2
              go_ret2
              refine ⟨?_, ((Below.refl _ _).drew).trans hb1⟩
              rw [E.out, if_neg (by have := HB.out; rintro (h | h) <;> omega)]
              rfl
            · have HB : Hid (s[i + k].toNat = 0 ∧ k ≠ 0) := by
                have := mt HI.2 hVT
                show _ ∧ _
                omega
              clear HI
              have hne := list_ne hVT
              go_wp2_with fail
              go_region_with (go_at_call 5; refine (HP.out _).mono ?_; rintro e w1 ⟨rfl, hb1⟩)
              go_wp2
              go_ret2
              refine ⟨?_, ((Below.refl _ _).drew).trans hb1⟩
              rw [E.out, if_pos (.inl HB.out)]
              rfl
          · have hTe : T.toList.isEmpty = false := list_some (by rw [HT.out]; simp; omega)
            have E2 : Hid (Plain.getN (bytesN s) i = (0, -1)) := by
              show _ = _
              rw [E.out, if_pos (.inr (by omega))]
            clear E
            go_wp2_with fail
            go_region_with (go_at_call 5; refine (specPutNum_no _ _ (.inr (by omega))).mono ?_; rintro e w' ⟨rfl, rfl⟩)
            go_wp2
            go_ret2
            exact ⟨by rw [E2.out]; rfl, (Below.refl _ _).drew⟩

end Go.Proofs.Ytgcomgoleiehcaa
