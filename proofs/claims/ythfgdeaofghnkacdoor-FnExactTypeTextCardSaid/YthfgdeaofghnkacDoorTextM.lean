/-
  The walks of impl.unionText and impl.fnText, given textOf of the parts.
-/
import Derived.Test.YthfgdeaofghnkacDoorTextL
import Derived.Test.YthfgdeaofghnkacDoorFormT
namespace Go.Proofs.YthfgdeaofghnkacDoor
open Go.RowKit Go.Shelf

set_option maxHeartbeats 1600000 in
set_option maxRecDepth 100000 in
theorem implUnionText (n : Nat) (ih : TextOfAt n) (vp : Value) (ks : List Ty) (d : Int) (w : World) (hp : PartsAt w (FormAt w n) vp ks) (hr : ∀ q ∈ ks, Right n q d) (hbk : rowBulk n ks ≤ 1048576) :
    Calls Tryd.prog 61 #[.agg #[vp]] w fun e w' => e = .returned (.string (joinP ⟨#[32, 124, 32]⟩ (ks.map fun k => roundP 6 k (Ty.text n k)))) ∧ Below w.heap.size w w' := by
  obtain ⟨av, capv, rfl, hel⟩ := partsOpen hp
  have hlen : ks.length ≤ 1048576 := by unfold rowBulk at hbk; omega
  have hB1 : Below w.heap.size w (w.alloc (.cells #[.slice av ks.length capv] 94)) := (Below.refl _ _).alloc (Nat.le_refl _) _
  have HTX : Hid (∀ wx : World, Below w.heap.size w wx → Calls Tryd.prog 74 #[.slice av ks.length capv] wx fun e w' => ∃ (a : Option Addr) (c : Nat), e = .returned (.slice a ks.length c) ∧ w'.ownsRow wx.heap.size 9 1 (.slice a ks.length c) ks.length (strV (textsP n ks)) ∧ Below wx.heap.size wx w') := fun wx hx => implTexts n ih _ ks d wx (hp.below hx fun u t _ h => h.below hx) hr hbk
  have HEL : Hid (∀ k (hk : k < ks.length), ∃ b off T x, av = some ⟨b, off, none⟩ ∧ b < w.heap.size ∧ w.cell? ⟨b, off + k, none⟩ = some (.iface T x) ∧ FormAt w n (.iface T x) ks[k]) := fun k hk => by
    obtain ⟨b, off, u, h1, h2, h3⟩ := hel k hk
    obtain ⟨T, x, rfl⟩ := form_iface h3
    exact ⟨b, off, T, x, h1, World.block_lt_of_cell? w ⟨b, off + k, none⟩ h2, h2, h3⟩
  obtain ⟨F, hF⟩ : ∃ F, F = ks.map fun k => roundP 6 k (Ty.text n k) := ⟨_, rfl⟩
  rw [← hF]
  have HTS : Hid (∀ k (h : k < (textsP n ks).length), (textsP n ks)[k].size ≤ 100000000) := fun k h => by
    have hk : k < ks.length := by rw [textsP_len] at h; exact h
    have := oneText_size n ks hbk k hk
    rw [textsP_get n ks k h hk]
    exact this
  have HLF : Hid (F.length = (textsP n ks).length ∧ (textsP n ks).length = ks.length) := ⟨by rw [hF, List.length_map, textsP_len], textsP_len n ks⟩
  have HFG : Hid (∀ k (h1 : k < ks.length) (h2 : k < (textsP n ks).length) (h3 : k < F.length), (ks[k].kind = 6 → F[k] = ⟨#[40]⟩ ++ (textsP n ks)[k] ++ ⟨#[41]⟩) ∧ (ks[k].kind ≠ 6 → F[k] = (textsP n ks)[k])) := fun k h1 h2 h3 => by
    rw [textsP_get n ks k h2 h1]
    have e : F[k] = roundP 6 ks[k] (Ty.text n ks[k]) := by subst hF; exact List.getElem_map ..
    rw [e]
    exact ⟨fun c => if_pos c, fun c => if_neg c⟩
  have HJS : Hid ((joinP ⟨#[32, 124, 32]⟩ F).size ≤ 140737488355328) := by
    show _ ≤ _
    have h1 := joinP_size ⟨#[32, 124, 32]⟩ F
    have h2 := kids_round (n := n) 6 ks
    have h3 := rowText_size n ks hbk
    have e : (⟨#[32, 124, 32]⟩ : ByteArray).size = 3 := rfl
    have e2 : F.length = ks.length := by rw [hF, List.length_map]
    unfold textsP at h3
    rw [e, e2] at h1
    rw [← hF] at h2
    omega
  clear hp hr hbk ih hF hel
  generalize textsP n ks = T at *
  have HK1 : Hid (∀ wx : World, Calls Tryd.prog 79 #[.agg #[.slice av ks.length capv]] wx fun e w' => e = .returned (.slice av ks.length capv) ∧ w' = wx.alloc (.cells #[.slice av ks.length capv] 82)) := fun wx => implKids av ks.length capv wx
  go_enter Tryd.func61, Tryd.ntmps61
  go_wp2_with fail
  refine (HK1.out _).mono ?_
  rintro e w1 ⟨rfl, rfl⟩
  have hB2 := hB1.alloc (by simp) (.cells #[.slice av ks.length capv] 82)
  go_wp2_with fail
  refine (HTX.out _ hB2).mono ?_
  rintro e w2 ⟨a, c, rfl, ho, hb2⟩
  have hb02 : Below w.heap.size w w2 := hB2.trans (hb2.mono (by simp; omega))
  have hrow : w2.ownsRow w.heap.size 9 1 (.slice a ks.length c) ks.length (strV (mixB F T 0)) := by rw [mixB_zero]; exact ownsRow_mono ho (by simp; omega)
  have D2 : w2.cell? ⟨w.heap.size, 0, none⟩ = some (.slice av ks.length capv) := by
    rw [hb2.cell (p := ⟨w.heap.size, 0, none⟩) (by simp; omega), cellOld 0 (by simp), cellNew 0 rfl]; rfl
  clear ho hb2 HTX hB1 hB2
  go_wp2_with fail
  refine (HK1.out _).mono ?_
  rintro e w3 ⟨rfl, rfl⟩
  have hb03 : Below w.heap.size w (w2.alloc (.cells #[.slice av ks.length capv] 82)) := hb02.alloc hb02.size _
  have hrow3 := hrow.alloc (.cells #[.slice av ks.length capv] 82)
  clear hrow hb02 D2 HK1
  go_wp2_with fail
  go_loopw [16] (fun i wr => ∃ (k : Nat), k ≤ ks.length ∧ i = .int .i64 k ∧ wr.ownsRow w.heap.size 9 1 (.slice a ks.length c) ks.length (strV (mixB F T k)) ∧ Below w.heap.size w wr) (fun i _ => ks.length - (intOf i).toNat)
  case atStart => exact ⟨0, Nat.zero_le _, rfl, hrow3, hb03⟩
  case round =>
    obtain ⟨k, hk, rfl, ho, hbe⟩ := hrel
    clear hrow3 hb03
    have hzw : w.heap.size ≤ wr.heap.size := hbe.size
    by_cases hlt : k < ks.length
    · have hTl : k < T.length := by have h1 := HLF.out.2; omega
      have hFl : k < F.length := by have h1 := HLF.out.1; omega
      obtain ⟨b, off, TT, xx, rfl, hb, c0, hfm⟩ := HEL.out k hlt
      obtain ⟨ax, lx, cx, hAS⟩ := assertFn hfm
      have C0 := (hbe.cell (p := ⟨b, off + k, none⟩) hb).trans c0
      by_cases h6 : ks[k].kind = 6
      · obtain ⟨g, rfl, hgl, hgr⟩ : ∃ g, a = some ⟨g, 0, none⟩ ∧ w.heap.size ≤ g ∧ g < wr.heap.size := by
          rcases ho.2 with ⟨_, h0⟩ | ⟨g, cap, cur, hv, hg, hh, _⟩
          · omega
          · simp only [Value.slice.injEq, true_and] at hv
            exact ⟨g, hv.1, hg, (Array.getElem?_eq_some_iff.1 hh).1⟩
        have hal : Below w.heap.size w (wr.alloc (.cells #[.slice ax lx cx] 93)) := hbe.alloc hzw _
        have ho1 := ho.alloc (.cells #[.slice ax lx cx] 93)
        have C1 : (wr.alloc (.cells #[.slice ax lx cx] 93)).cell? ⟨g, k, none⟩ = some (.string T[k]) := by rw [ho1.cellAt k (by omega)]; exact mixB_get F T k HLF.out.1 hTl
        have HJ0 := join3 ⟨#[40]⟩ T[k] ⟨#[41]⟩ (wr.heap.size + 1) (wr.alloc (.cells #[.slice ax lx cx] 93)) (by simp) (by decide) (by have := HTS.out k hTl; omega) (by decide)
        have HFE : Hid (⟨#[40]⟩ ++ T[k] ++ ⟨#[41]⟩ = F[k]) := ((HFG.out k hlt hTl hFl).1 h6).symm
        rw [HFE.out] at HJ0
        have HSET : Hid ((strV (mixB F T k)).set k (.string F[k]) = strV (mixB F T (k + 1))) := mixB_set F T k hFl hTl
        have HJ : Hid (type_of% HJ0) := HJ0
        rw [decide_eq_true h6] at hAS
        clear c0 HJ0 HFE HTS HLF HFG HJS hfm h6 HEL ho
        generalize T[k] = y at *
        generalize F[k] = z at *
        go_wp2_with fail
        refine HJ.out.mono ?_
        rintro e w3 ⟨rfl, hb3⟩
        have ho3 := kept_belowT ho1 hb3
        have hbe3 : Below w.heap.size w w3 := hal.trans (hb3.mono (by simp; omega))
        have C13 : w3.cell? ⟨g, k, none⟩ = some (.string y) := (hb3.cell (p := ⟨g, k, none⟩) (by simp; omega)).trans C1
        have F13 := ho3.frozenAt k
        obtain ⟨R1, _⟩ := ho3.stored k (.string z)
        rw [HSET.out] at R1
        have R2 : Below w.heap.size w (w3.setCell ⟨g, k, none⟩ (.string z)) := hbe3.setCell hgl _
        clear ho1 ho3 hbe3 C1 C0 HJ HSET hAS
        go_wp2_with fail
        go_roundw
        case rel => exact ⟨k + 1, by omega, by go_num, R1, R2⟩
        case measure => simp [intOf]; omega
      · have R1 := ho.alloc (.cells #[.slice ax lx cx] 93)
        have e := mixB_next F T k hFl hTl ((HFG.out k hlt hTl hFl).2 h6)
        rw [← e] at R1
        have R2 : Below w.heap.size w (wr.alloc (.cells #[.slice ax lx cx] 93)) := hbe.alloc hzw _
        rw [decide_eq_false h6] at hAS
        clear c0 HTS HLF HFG HJS hfm h6 HEL ho e
        go_wp2_with fail
        go_roundw
        case rel => exact ⟨k + 1, by omega, by go_num, R1, R2⟩
        case measure => simp [intOf]; omega
    · have hke : k = T.length := by have h1 := HLF.out.2; omega
      have HJ0 : Calls Tryd.prog 80 #[.slice a ks.length c, .string ⟨#[32, 124, 32]⟩] wr fun e w' => e = .returned (.string (joinP ⟨#[32, 124, 32]⟩ F)) ∧ Below wr.heap.size wr w' := by
        rw [hke, mixB_all F T HLF.out.1] at ho
        exact stringsJoinOwn _ ks.length F ⟨#[32, 124, 32]⟩ wr (by rw [HLF.out.1, HLF.out.2]) ho (by rw [HLF.out.1, HLF.out.2]; exact hlen) HJS.out
      have HJ : Hid (type_of% HJ0) := HJ0
      clear HJ0 ho hke HTS HLF HFG HJS HEL
      go_wp2_with fail
      refine HJ.out.mono ?_
      rintro e w3 ⟨rfl, hb3⟩
      go_wp2_with fail
      go_ret
      exact ⟨rfl, hbe.trans (hb3.mono hzw)⟩

end Go.Proofs.YthfgdeaofghnkacDoor
