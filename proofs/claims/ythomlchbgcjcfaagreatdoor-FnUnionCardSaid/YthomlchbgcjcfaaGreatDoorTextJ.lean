/-
  The walks of impl's kids and textsOf (given textOf), and strings.Join of a row of its own.
-/
import Derived.Test.YthomlchbgcjcfaaGreatDoorFormsI
namespace Go.Proofs.YthomlchbgcjcfaaGreatDoor
open Go.RowKit

set_option maxHeartbeats 400000 in
theorem implKids (a : Option Addr) (l c : Nat) (w : World) :
    Calls Tryz.prog 25 #[.agg #[.slice a l c]] w fun e w' => e = .returned (.slice a l c) ∧ w' = w.alloc (.cells #[.slice a l c] 56) := by
  go_enter Tryz.func25, Tryz.ntmps25
  go_wp2
  go_ret
  exact ⟨rfl, rfl⟩

/-- what textOf does at that depth -/
def TextOfAt (n : Nat) : Prop := ∀ (v : Value) (t : Ty) (d : Int) (w : World), FormAt w n v t → Right n t d → Ty.bulk n t ≤ 1048576 →
    Calls Tryz.prog 43 #[v] w fun e w' => e = .returned (.string (Ty.text n t)) ∧ Below w.heap.size w w'

/-- the texts of these, to a depth -/
def textsP (n : Nat) (ks : List Ty) : List ByteArray := ks.map (Ty.text n)
theorem textsP_more (n : Nat) (ks : List Ty) (k : Nat) (h : k < ks.length) : textsP n (ks.take (k + 1)) = textsP n (ks.take k) ++ [Ty.text n ks[k]] := by
  unfold textsP
  rw [List.take_succ_eq_append_getElem h, List.map_append]
  rfl
theorem textsP_len (n : Nat) (ks : List Ty) : (textsP n ks).length = ks.length := by unfold textsP; rw [List.length_map]

theorem partsOpen {w : World} {R : Value → Ty → Prop} {v : Value} {ks : List Ty} (h : PartsAt w R v ks) : ∃ a cap, v = .slice a ks.length cap ∧ ∀ j (h : j < ks.length), ∃ b off u, a = some ⟨b, off, none⟩ ∧ w.cell? ⟨b, off + j, none⟩ = some u ∧ R u ks[j] := by
  rcases h with ⟨h, a, cap, e⟩ | ⟨b, off, cap, e, _, hc⟩
  · subst h; exact ⟨a, cap, e, fun j hj => absurd hj (by simp)⟩
  · exact ⟨_, cap, e, fun j hj => by obtain ⟨u, h1, h2⟩ := hc j hj; exact ⟨b, off, u, rfl, h1, h2⟩⟩

theorem one_cellJ {X : World} {G : Nat} {s : ByteArray} (h : X.cell? ⟨G, 0, none⟩ = some (.string s)) : ∀ j u, [Value.string s][j]? = some u → X.cell? ((⟨G, 0, none⟩ : Addr).add j) = some u := by
  intro j u hj
  match j, hj with
  | 0, hj => simp at hj; subst hj; simpa [Addr.add] using h
  | j + 1, hj => simp at hj

set_option maxHeartbeats 1600000 in
set_option maxRecDepth 100000 in
theorem implTexts (n : Nat) (ih : TextOfAt n) (vp : Value) (ks : List Ty) (d : Int) (w : World) (hp : PartsAt w (FormAt w n) vp ks) (hr : ∀ q ∈ ks, Right n q d) (hbk : rowBulk n ks ≤ 1048576) :
    Calls Tryz.prog 56 #[vp] w fun e w' => ∃ (a : Option Addr) (c : Nat), e = .returned (.slice a ks.length c) ∧ w'.ownsRow w.heap.size 9 1 (.slice a ks.length c) ks.length (strV (textsP n ks)) ∧ Below w.heap.size w w' := by
  obtain ⟨i0, hi0, hz0, hz1, hz2⟩ := info_parts Tryz.infoString
  obtain ⟨av, capv, rfl, hel⟩ := partsOpen hp
  have hlen : ks.length ≤ 1048576 := by unfold rowBulk at hbk; omega
  have HEL : Hid (∀ k (hk : k < ks.length), ∃ b off T x, av = some ⟨b, off, none⟩ ∧ b < w.heap.size ∧ w.cell? ⟨b, off + k, none⟩ = some (.iface T x) ∧ FormAt w n (.iface T x) ks[k]) := fun k hk => by
    obtain ⟨b, off, u, h1, h2, h3⟩ := hel k hk
    obtain ⟨T, x, rfl⟩ := form_iface h3
    exact ⟨b, off, T, x, h1, World.block_lt_of_cell? w ⟨b, off + k, none⟩ h2, h2, h3⟩
  have HTO : Hid (∀ k (hk : k < ks.length) (v : Value) (wx : World), FormAt wx n v ks[k] → Calls Tryz.prog 43 #[v] wx fun e w' => e = .returned (.string (Ty.text n ks[k])) ∧ Below wx.heap.size wx w') := fun k hk v wx h => ih v ks[k] d wx h (hr _ (List.getElem_mem hk)) (by have := kid_bulk n ks k hk; unfold rowBulk at hbk; omega)
  clear hp hel ih hr hbk
  go_enter Tryz.func56, Tryz.ntmps56
  go_wp2_with fail
  go_loopw [3, 8] (fun v i wr => ∃ (k : Nat) (zs : List ByteArray), k ≤ ks.length ∧ i = .int .i64 k ∧ zs.length = k ∧ zs = textsP n (ks.take k) ∧ wr.ownsRow w.heap.size 9 1 v zs.length (strV zs) ∧ Below w.heap.size w wr) (fun _ i _ => ks.length - (intOf i).toNat)
  case atStart => exact ⟨0, [], Nat.zero_le _, rfl, rfl, rfl, World.ownsRow_nil _ _ _ _, Below.refl _ _⟩
  case round =>
    obtain ⟨k, zs, hk, rfl, hzl, hzs, how, hbe⟩ := hrel
    have HZ : Hid (zs = textsP n (ks.take k)) := hzs
    have HZL : Hid (zs.length = k) := hzl
    have hzk : zs.length ≤ k := by omega
    have hzw : w.heap.size ≤ wr.heap.size := hbe.size
    clear hzs hzl
    obtain ⟨az, capz, hv⟩ := slice_ownF how
    subst hv
    by_cases hlt : k < ks.length
    · obtain ⟨b, off, T, x, rfl, hb, c0, hfm⟩ := HEL.out k hlt
      have C0 := (hbe.cell (p := ⟨b, off + k, none⟩) hb).trans c0
      have HC0 := HTO.out k hlt (.iface T x) wr (hfm.below hbe)
      have HZ2 : Hid (zs ++ [Ty.text n ks[k]] = textsP n (ks.take (k + 1))) := by show _ = _; rw [textsP_more n ks k hlt, HZ.out]
      have HC : Hid (type_of% HC0) := HC0
      clear c0 hfm HC0 HEL HTO HZ
      generalize Ty.text n ks[k] = s at *
      go_wp2_with fail
      refine HC.out.mono ?_
      rintro e w2 ⟨rfl, hb2⟩
      have how2 := kept_belowT how hb2
      have hbe2 : Below w.heap.size w w2 := hbe.trans (hb2.mono hzw)
      have hz2w : w.heap.size ≤ w2.heap.size := hbe2.size
      clear how hb2 HC
      go_wp2_with (at_builtin; refine wpList_append_own _ rfl _ _ 26 rfl w.heap.size 9 i0 (.string ⟨#[]⟩) 1 16 Tryz.underlying26 hi0 hz0 hz1 hz2 rfl (by decide) _ _ _ rfl (how2.alloc _) ⟨w2.heap.size, 0, none⟩ 1 1 [.string s] rfl rfl ?c1 ?c2 ?c3 ?c4 ?c5 ?_)
      case c1 => exact one_cellJ (cellNew 0 rfl)
      case c2 => intro u hu; simp at hu; subst hu; rfl
      case c3 => unfold maxLen; omega
      case c4 => omega
      case c5 => simp; omega
      intro v' w3 hown' hgrow _
      have R1 : w3.ownsRow w.heap.size 9 1 v' (zs ++ [s]).length (strV (zs ++ [s])) := by simpa [strV] using hown'
      have R2 : Below w.heap.size w w3 := (hbe2.alloc hz2w _).grown hgrow (by simp; omega) (fun j hj => (how2.lt j hj).1)
      have HZL2 : Hid ((zs ++ [s]).length = k + 1) := by show _ = _; rw [List.length_append, List.length_singleton, HZL.out]
      clear hown' hgrow how2 hbe2
      go_wp2_with fail
      go_roundw
      case rel => exact ⟨k + 1, zs ++ [s], by omega, by go_num, HZL2.out, HZ2.out, R1, R2⟩
      case measure => simp [intOf]; omega
    · have hke : k = ks.length := by omega
      have HF : Hid (zs.length = ks.length ∧ zs = textsP n ks) := by
        refine ⟨by have := HZL.out; omega, ?_⟩
        rw [HZ.out, hke, List.take_of_length_le (Nat.le_refl _)]
      have HO : Hid (type_of% how) := how
      clear how HZ HZL HEL HTO hke
      go_wp2_with fail
      go_ret
      refine ⟨az, capz, ?_, ?_, hbe⟩
      · rw [← HF.out.1]; rfl
      · have := HO.out
        rw [HF.out.1, HF.out.2] at this
        exact this

end Go.Proofs.YthomlchbgcjcfaaGreatDoor
