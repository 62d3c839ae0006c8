/-
  The walks of impl.fieldsText, given textOf of the parts.
  The walks of impl.unionText and impl.fnText, given textOf of the parts.
  The walk of impl.fnText, given textOf of the parts.
  The walk of impl.textOf at every form.
  The walk of impl.unionKidsOk.
  When a type of each kind is right, as impl asks it.
-/
import Derived.Test.YthomlchbgcjcfaaGreatDoorTextK
import Derived.Test.YthomlchbgcjcfaaGreatDoorFormT
import Derived.Test.YthomlchbgcjcfaaGreatDoorCloneLib
namespace Go.Proofs.YthomlchbgcjcfaaGreatDoor
open Go.RowKit Go.Shelf

theorem fieldsP_len (f : Ty → ByteArray) (nms : List ByteArray) (ks : List Ty) (h : nms.length = ks.length) : (fieldsP f nms ks).length = ks.length := by
  unfold fieldsP
  rw [List.length_zipWith]
  omega
theorem fieldsP_get (f : Ty → ByteArray) (nms : List ByteArray) (ks : List Ty) (k : Nat) (h1 : k < nms.length) (h2 : k < ks.length) (h : k < (fieldsP f nms ks).length) : (fieldsP f nms ks)[k] = nms[k] ++ ⟨#[58, 32]⟩ ++ f ks[k] := List.getElem_zipWith ..
theorem textsP_get (n : Nat) (ks : List Ty) (k : Nat) (h : k < (textsP n ks).length) (hk : k < ks.length) : (textsP n ks)[k] = Ty.text n ks[k] := List.getElem_map ..

theorem ownsRow_mono {w : World} {B B' e z : Nat} {v : Value} {n : Nat} {xs : List Value} (h : w.ownsRow B e z v n xs) (hB : B' ≤ B) : w.ownsRow B' e z v n xs := by
  refine ⟨h.1, ?_⟩
  rcases h.2 with h | ⟨g, cap, cur, h1, h2, h3⟩
  · exact .inl h
  · exact .inr ⟨g, cap, cur, h1, Nat.le_trans hB h2, h3⟩

set_option maxHeartbeats 1600000 in
set_option maxRecDepth 100000 in
theorem implFieldsText (n : Nat) (ih : TextOfAt n) (vp vn : Value) (nms : List ByteArray) (ks : List Ty) (d : Int) (w : World) (hp : PartsAt w (FormAt w n) vp ks) (hT : Texts w vn nms) (hnk : nms.length = ks.length) (hr : ∀ q ∈ ks, Right n q d) (hbk : Ty.textsBulk nms + rowBulk n ks ≤ 1048576) :
    Calls Tryz.prog 58 #[.agg #[vp, vn]] w fun e w' => e = .returned (.string (joinP ⟨#[44, 32]⟩ (fieldsP (Ty.text n) nms ks))) ∧ Below w.heap.size w w' := by
  have hbk2 : rowBulk n ks ≤ 1048576 := by omega
  obtain ⟨av, capv, rfl, _⟩ := partsOpen hp
  obtain ⟨an, cn, rfl, hcs⟩ : ∃ a cap, vn = .slice a nms.length cap ∧ ∀ j (h : j < nms.length), ∃ b off, a = some ⟨b, off, none⟩ ∧ w.cell? ⟨b, off + j, none⟩ = some (.string nms[j]) := by
    rcases hT with ⟨h, a, cap, e⟩ | ⟨b, off, cap, e, hc⟩
    · subst h; exact ⟨a, cap, e, fun j hj => absurd hj (by simp)⟩
    · exact ⟨_, cap, e, fun j hj => ⟨b, off, rfl, hc j hj⟩⟩
  have hlen : ks.length ≤ 1048576 := by unfold rowBulk at hbk2; omega
  have hnl : nms.length ≤ 1048576 := by omega
  have hB1 : Below w.heap.size w (w.alloc (.cells #[.slice av ks.length capv, .slice an nms.length cn] 76)) := (Below.refl _ _).alloc (Nat.le_refl _) _
  have HTX : Hid (∀ wx : World, Below w.heap.size w wx → Calls Tryz.prog 56 #[.slice av ks.length capv] wx fun e w' => ∃ (a : Option Addr) (c : Nat), e = .returned (.slice a ks.length c) ∧ w'.ownsRow wx.heap.size 9 1 (.slice a ks.length c) ks.length (strV (textsP n ks)) ∧ Below wx.heap.size wx w') := fun wx hx => implTexts n ih _ ks d wx (hp.below hx fun u t _ h => h.below hx) hr hbk2
  have HC : Hid (type_of% hcs) := hcs
  have HNS : Hid (∀ k (h : k < nms.length), nms[k].size ≤ 1048576) := fun k h => by have := textsBulk_mem nms _ (List.getElem_mem h); omega
  have HTS : Hid (∀ k (h : k < (textsP n ks).length), (textsP n ks)[k].size ≤ 100000000) := fun k h => by
    have hk : k < ks.length := by rw [textsP_len] at h; exact h
    have := oneText_size n ks hbk2 k hk
    rw [textsP_get n ks k h hk]
    exact this
  have HLF : Hid ((fieldsP (Ty.text n) nms ks).length = (textsP n ks).length ∧ (textsP n ks).length = ks.length) := ⟨by rw [fieldsP_len _ _ _ hnk, textsP_len], textsP_len n ks⟩
  have HFG : Hid (∀ k (h1 : k < nms.length) (h2 : k < (textsP n ks).length) (h3 : k < (fieldsP (Ty.text n) nms ks).length), (fieldsP (Ty.text n) nms ks)[k] = nms[k] ++ ⟨#[58, 32]⟩ ++ (textsP n ks)[k]) := fun k h1 h2 h3 => by
    have hk : k < ks.length := by rw [textsP_len] at h2; exact h2
    rw [fieldsP_get _ _ _ k h1 hk h3, textsP_get n ks k h2 hk]
  have HJS : Hid ((joinP ⟨#[44, 32]⟩ (fieldsP (Ty.text n) nms ks)).size ≤ 140737488355328) := by
    show _ ≤ _
    have h1 := joinP_size ⟨#[44, 32]⟩ (fieldsP (Ty.text n) nms ks)
    have h2 := kids_fields (n := n) nms ks
    have h3 := rowText_size n ks hbk2
    have e : (⟨#[44, 32]⟩ : ByteArray).size = 2 := rfl
    unfold textsP at h3
    rw [e] at h1
    omega
  have HNK : Hid (nms.length = ks.length) := hnk
  clear hp hT hcs hr hbk hbk2 ih hnk
  generalize fieldsP (Ty.text n) nms ks = F at *
  generalize textsP n ks = T at *
  have HK1 : Hid (∀ wx : World, Calls Tryz.prog 25 #[.agg #[.slice av ks.length capv]] wx fun e w' => e = .returned (.slice av ks.length capv) ∧ w' = wx.alloc (.cells #[.slice av ks.length capv] 56)) := fun wx => implKids av ks.length capv wx
  go_enter Tryz.func58, Tryz.ntmps58
  go_wp2_with fail
  refine (HK1.out _).mono ?_
  rintro e w1 ⟨rfl, rfl⟩
  have hB2 := hB1.alloc (by simp) (.cells #[.slice av ks.length capv] 56)
  go_wp2_with fail
  refine (HTX.out _ hB2).mono ?_
  rintro e w2 ⟨a, c, rfl, ho, hb2⟩
  have hb02 : Below w.heap.size w w2 := hB2.trans (hb2.mono (by simp; omega))
  have hrow : w2.ownsRow w.heap.size 9 1 (.slice a ks.length c) ks.length (strV (mixB F T 0)) := by rw [mixB_zero]; exact ownsRow_mono ho (by simp; omega)
  have D2 : w2.cell? ⟨w.heap.size, 1, none⟩ = some (.slice an nms.length cn) := by
    rw [hb2.cell (p := ⟨w.heap.size, 1, none⟩) (by simp; omega), cellOld 1 (by simp), cellNew 1 rfl]; rfl
  clear ho hb2 HTX HK1 hB1 hB2
  go_wp2_with fail
  go_loopw [13] (fun i wr => ∃ (k : Nat), k ≤ nms.length ∧ i = .int .i64 k ∧ wr.ownsRow w.heap.size 9 1 (.slice a ks.length c) ks.length (strV (mixB F T k)) ∧ Below w.heap.size w wr) (fun i _ => nms.length - (intOf i).toNat)
  case atStart => exact ⟨0, Nat.zero_le _, rfl, hrow, hb02⟩
  case round =>
    obtain ⟨k, hk, rfl, ho, hbe⟩ := hrel
    clear hrow hb02 D2
    have hzw : w.heap.size ≤ wr.heap.size := hbe.size
    by_cases hlt : k < nms.length
    · have hTl : k < T.length := by have h1 := HLF.out.2; have h2 := HNK.out; omega
      have hFl : k < F.length := by have h1 := HLF.out.1; omega
      have hkl : k < ks.length := by have h1 := HLF.out.2; omega
      obtain ⟨b, off, rfl, c0⟩ := HC.out k hlt
      have hb : b < w.heap.size := World.block_lt_of_cell? w ⟨b, off + k, none⟩ c0
      have C0 := (hbe.cell (p := ⟨b, off + k, none⟩) hb).trans c0
      obtain ⟨g, rfl, hgl, hgr⟩ : ∃ g, a = some ⟨g, 0, none⟩ ∧ w.heap.size ≤ g ∧ g < wr.heap.size := by
        rcases ho.2 with ⟨_, h0⟩ | ⟨g, cap, cur, hv, hg, hh, _⟩
        · omega
        · simp only [Value.slice.injEq, true_and] at hv
          exact ⟨g, hv.1, hg, (Array.getElem?_eq_some_iff.1 hh).1⟩
      have C1 : wr.cell? ⟨g, k, none⟩ = some (.string T[k]) := by rw [ho.cellAt k (by omega)]; exact mixB_get F T k HLF.out.1 hTl
      have HJ0 := join3 nms[k] ⟨#[58, 32]⟩ T[k] wr.heap.size wr rfl (by have := HNS.out k hlt; omega) (by decide) (by have := HTS.out k hTl; omega)
      have HFE : Hid (nms[k] ++ ⟨#[58, 32]⟩ ++ T[k] = F[k]) := (HFG.out k hlt hTl hFl).symm
      rw [HFE.out] at HJ0
      have HSET : Hid ((strV (mixB F T k)).set k (.string F[k]) = strV (mixB F T (k + 1))) := mixB_set F T k hFl hTl
      have HJ : Hid (type_of% HJ0) := HJ0
      clear c0 HJ0 HFE HC HNS HTS HLF HFG HJS HNK
      generalize nms[k] = x at *
      generalize T[k] = y at *
      generalize F[k] = z at *
      go_wp2_with fail
      refine HJ.out.mono ?_
      rintro e w3 ⟨rfl, hb3⟩
      have ho3 := kept_belowT ho hb3
      have hbe3 : Below w.heap.size w w3 := hbe.trans (hb3.mono hzw)
      have C13 : w3.cell? ⟨g, k, none⟩ = some (.string y) := (hb3.cell (p := ⟨g, k, none⟩) hgr).trans C1
      have F13 := ho3.frozenAt k
      obtain ⟨R1, _⟩ := ho3.stored k (.string z)
      rw [HSET.out] at R1
      have R2 : Below w.heap.size w (w3.setCell ⟨g, k, none⟩ (.string z)) := hbe3.setCell hgl _
      clear ho ho3 hbe3 C1 C0 HJ HSET
      go_wp2_with fail
      go_roundw
      case rel => exact ⟨k + 1, by omega, by go_num, R1, R2⟩
      case measure => simp [intOf]; omega
    · have hke : k = T.length := by have h1 := HLF.out.2; have h2 := HNK.out; omega
      have HJ0 : Calls Tryz.prog 83 #[.slice a ks.length c, .string ⟨#[44, 32]⟩] wr fun e w' => e = .returned (.string (joinP ⟨#[44, 32]⟩ F)) ∧ Below wr.heap.size wr w' := by
        rw [hke, mixB_all F T HLF.out.1] at ho
        exact stringsJoinOwn _ ks.length F ⟨#[44, 32]⟩ wr (by rw [HLF.out.1, HLF.out.2]) ho (by rw [HLF.out.1, HLF.out.2]; exact hlen) HJS.out
      have HJ : Hid (type_of% HJ0) := HJ0
      clear HJ0 ho hke HC HNS HTS HLF HFG HJS HNK
      go_wp2_with fail
      refine HJ.out.mono ?_
      rintro e w3 ⟨rfl, hb3⟩
      go_wp2_with fail
      go_ret
      exact ⟨rfl, hbe.trans (hb3.mono hzw)⟩

end Go.Proofs.YthomlchbgcjcfaaGreatDoor

namespace Go.Proofs.YthomlchbgcjcfaaGreatDoor
open Go.RowKit Go.Shelf

set_option maxHeartbeats 1600000 in
set_option maxRecDepth 100000 in
theorem implUnionText (n : Nat) (ih : TextOfAt n) (vp : Value) (ks : List Ty) (d : Int) (w : World) (hp : PartsAt w (FormAt w n) vp ks) (hr : ∀ q ∈ ks, Right n q d) (hbk : rowBulk n ks ≤ 1048576) :
    Calls Tryz.prog 60 #[.agg #[vp]] w fun e w' => e = .returned (.string (joinP ⟨#[32, 124, 32]⟩ (ks.map fun k => roundP 6 k (Ty.text n k)))) ∧ Below w.heap.size w w' := by
  obtain ⟨av, capv, rfl, hel⟩ := partsOpen hp
  have hlen : ks.length ≤ 1048576 := by unfold rowBulk at hbk; omega
  have hB1 : Below w.heap.size w (w.alloc (.cells #[.slice av ks.length capv] 59)) := (Below.refl _ _).alloc (Nat.le_refl _) _
  have HTX : Hid (∀ wx : World, Below w.heap.size w wx → Calls Tryz.prog 56 #[.slice av ks.length capv] wx fun e w' => ∃ (a : Option Addr) (c : Nat), e = .returned (.slice a ks.length c) ∧ w'.ownsRow wx.heap.size 9 1 (.slice a ks.length c) ks.length (strV (textsP n ks)) ∧ Below wx.heap.size wx w') := fun wx hx => implTexts n ih _ ks d wx (hp.below hx fun u t _ h => h.below hx) hr hbk
  have HEL : Hid (∀ k (hk : k < ks.length), ∃ b off T x, av = some ⟨b, off, none⟩ ∧ b < w.heap.size ∧ w.cell? ⟨b, off + k, none⟩ = some (.iface T x) ∧ FormAt w n (.iface T x) ks[k]) := fun k hk => by
    obtain ⟨b, off, u, h1, h2, h3⟩ := hel k hk
    obtain ⟨T, x, rfl⟩ := form_iface h3
    exact ⟨b, off, T, x, h1, World.block_lt_of_cell? w ⟨b, off + k, none⟩ h2, h2, h3⟩
  obtain ⟨F, hF⟩ : ∃ F, F = ks.map fun k => roundP 6 k (Ty.text n k) := ⟨_, rfl⟩
  rw [← hF]
  have HTS : Hid (∀ k (h : k < (textsP n ks).length), (textsP n ks)[k].size ≤ 100000000) := fun k h => by
    have hk : k < ks.length := by rw [textsP_len] at h; exact h
    have := oneText_size n ks hbk k hk
    rw [textsP_get n ks k h hk]
    exact this
  have HLF : Hid (F.length = (textsP n ks).length ∧ (textsP n ks).length = ks.length) := ⟨by rw [hF, List.length_map, textsP_len], textsP_len n ks⟩
  have HFG : Hid (∀ k (h1 : k < ks.length) (h2 : k < (textsP n ks).length) (h3 : k < F.length), (ks[k].kind = 6 → F[k] = ⟨#[40]⟩ ++ (textsP n ks)[k] ++ ⟨#[41]⟩) ∧ (ks[k].kind ≠ 6 → F[k] = (textsP n ks)[k])) := fun k h1 h2 h3 => by
    rw [textsP_get n ks k h2 h1]
    have e : F[k] = roundP 6 ks[k] (Ty.text n ks[k]) := by subst hF; exact List.getElem_map ..
    rw [e]
    exact ⟨fun c => if_pos c, fun c => if_neg c⟩
  have HJS : Hid ((joinP ⟨#[32, 124, 32]⟩ F).size ≤ 140737488355328) := by
    show _ ≤ _
    have h1 := joinP_size ⟨#[32, 124, 32]⟩ F
    have h2 := kids_round (n := n) 6 ks
    have h3 := rowText_size n ks hbk
    have e : (⟨#[32, 124, 32]⟩ : ByteArray).size = 3 := rfl
    have e2 : F.length = ks.length := by rw [hF, List.length_map]
    unfold textsP at h3
    rw [e, e2] at h1
    rw [← hF] at h2
    omega
  clear hp hr hbk ih hF hel
  generalize textsP n ks = T at *
  have HK1 : Hid (∀ wx : World, Calls Tryz.prog 25 #[.agg #[.slice av ks.length capv]] wx fun e w' => e = .returned (.slice av ks.length capv) ∧ w' = wx.alloc (.cells #[.slice av ks.length capv] 56)) := fun wx => implKids av ks.length capv wx
  go_enter Tryz.func60, Tryz.ntmps60
  go_wp2_with fail
  refine (HK1.out _).mono ?_
  rintro e w1 ⟨rfl, rfl⟩
  have hB2 := hB1.alloc (by simp) (.cells #[.slice av ks.length capv] 56)
  go_wp2_with fail
  refine (HTX.out _ hB2).mono ?_
  rintro e w2 ⟨a, c, rfl, ho, hb2⟩
  have hb02 : Below w.heap.size w w2 := hB2.trans (hb2.mono (by simp; omega))
  have hrow : w2.ownsRow w.heap.size 9 1 (.slice a ks.length c) ks.length (strV (mixB F T 0)) := by rw [mixB_zero]; exact ownsRow_mono ho (by simp; omega)
  have D2 : w2.cell? ⟨w.heap.size, 0, none⟩ = some (.slice av ks.length capv) := by
    rw [hb2.cell (p := ⟨w.heap.size, 0, none⟩) (by simp; omega), cellOld 0 (by simp), cellNew 0 rfl]; rfl
  clear ho hb2 HTX hB1 hB2
  go_wp2_with fail
  refine (HK1.out _).mono ?_
  rintro e w3 ⟨rfl, rfl⟩
  have hb03 : Below w.heap.size w (w2.alloc (.cells #[.slice av ks.length capv] 56)) := hb02.alloc hb02.size _
  have hrow3 := hrow.alloc (.cells #[.slice av ks.length capv] 56)
  clear hrow hb02 D2 HK1
  go_wp2_with fail
  go_loopw [16] (fun i wr => ∃ (k : Nat), k ≤ ks.length ∧ i = .int .i64 k ∧ wr.ownsRow w.heap.size 9 1 (.slice a ks.length c) ks.length (strV (mixB F T k)) ∧ Below w.heap.size w wr) (fun i _ => ks.length - (intOf i).toNat)
  case atStart => exact ⟨0, Nat.zero_le _, rfl, hrow3, hb03⟩
  case round =>
    obtain ⟨k, hk, rfl, ho, hbe⟩ := hrel
    clear hrow3 hb03
    have hzw : w.heap.size ≤ wr.heap.size := hbe.size
    by_cases hlt : k < ks.length
    · have hTl : k < T.length := by have h1 := HLF.out.2; omega
      have hFl : k < F.length := by have h1 := HLF.out.1; omega
      obtain ⟨b, off, TT, xx, rfl, hb, c0, hfm⟩ := HEL.out k hlt
      obtain ⟨ax, lx, cx, hAS⟩ := assertFn hfm
      have C0 := (hbe.cell (p := ⟨b, off + k, none⟩) hb).trans c0
      by_cases h6 : ks[k].kind = 6
      · obtain ⟨g, rfl, hgl, hgr⟩ : ∃ g, a = some ⟨g, 0, none⟩ ∧ w.heap.size ≤ g ∧ g < wr.heap.size := by
          rcases ho.2 with ⟨_, h0⟩ | ⟨g, cap, cur, hv, hg, hh, _⟩
          · omega
          · simp only [Value.slice.injEq, true_and] at hv
            exact ⟨g, hv.1, hg, (Array.getElem?_eq_some_iff.1 hh).1⟩
        have hal : Below w.heap.size w (wr.alloc (.cells #[.slice ax lx cx] 78)) := hbe.alloc hzw _
        have ho1 := ho.alloc (.cells #[.slice ax lx cx] 78)
        have C1 : (wr.alloc (.cells #[.slice ax lx cx] 78)).cell? ⟨g, k, none⟩ = some (.string T[k]) := by rw [ho1.cellAt k (by omega)]; exact mixB_get F T k HLF.out.1 hTl
        have HJ0 := join3 ⟨#[40]⟩ T[k] ⟨#[41]⟩ (wr.heap.size + 1) (wr.alloc (.cells #[.slice ax lx cx] 78)) (by simp) (by decide) (by have := HTS.out k hTl; omega) (by decide)
        have HFE : Hid (⟨#[40]⟩ ++ T[k] ++ ⟨#[41]⟩ = F[k]) := ((HFG.out k hlt hTl hFl).1 h6).symm
        rw [HFE.out] at HJ0
        have HSET : Hid ((strV (mixB F T k)).set k (.string F[k]) = strV (mixB F T (k + 1))) := mixB_set F T k hFl hTl
        have HJ : Hid (type_of% HJ0) := HJ0
        rw [decide_eq_true h6] at hAS
        clear c0 HJ0 HFE HTS HLF HFG HJS hfm h6 HEL ho
        generalize T[k] = y at *
        generalize F[k] = z at *
        go_wp2_with fail
        refine HJ.out.mono ?_
        rintro e w3 ⟨rfl, hb3⟩
        have ho3 := kept_belowT ho1 hb3
        have hbe3 : Below w.heap.size w w3 := hal.trans (hb3.mono (by simp; omega))
        have C13 : w3.cell? ⟨g, k, none⟩ = some (.string y) := (hb3.cell (p := ⟨g, k, none⟩) (by simp; omega)).trans C1
        have F13 := ho3.frozenAt k
        obtain ⟨R1, _⟩ := ho3.stored k (.string z)
        rw [HSET.out] at R1
        have R2 : Below w.heap.size w (w3.setCell ⟨g, k, none⟩ (.string z)) := hbe3.setCell hgl _
        clear ho1 ho3 hbe3 C1 C0 HJ HSET hAS
        go_wp2_with fail
        go_roundw
        case rel => exact ⟨k + 1, by omega, by go_num, R1, R2⟩
        case measure => simp [intOf]; omega
      · have R1 := ho.alloc (.cells #[.slice ax lx cx] 78)
        have e := mixB_next F T k hFl hTl ((HFG.out k hlt hTl hFl).2 h6)
        rw [← e] at R1
        have R2 : Below w.heap.size w (wr.alloc (.cells #[.slice ax lx cx] 78)) := hbe.alloc hzw _
        rw [decide_eq_false h6] at hAS
        clear c0 HTS HLF HFG HJS hfm h6 HEL ho e
        go_wp2_with fail
        go_roundw
        case rel => exact ⟨k + 1, by omega, by go_num, R1, R2⟩
        case measure => simp [intOf]; omega
    · have hke : k = T.length := by have h1 := HLF.out.2; omega
      have HJ0 : Calls Tryz.prog 83 #[.slice a ks.length c, .string ⟨#[32, 124, 32]⟩] wr fun e w' => e = .returned (.string (joinP ⟨#[32, 124, 32]⟩ F)) ∧ Below wr.heap.size wr w' := by
        rw [hke, mixB_all F T HLF.out.1] at ho
        exact stringsJoinOwn _ ks.length F ⟨#[32, 124, 32]⟩ wr (by rw [HLF.out.1, HLF.out.2]) ho (by rw [HLF.out.1, HLF.out.2]; exact hlen) HJS.out
      have HJ : Hid (type_of% HJ0) := HJ0
      clear HJ0 ho hke HTS HLF HFG HJS HEL
      go_wp2_with fail
      refine HJ.out.mono ?_
      rintro e w3 ⟨rfl, hb3⟩
      go_wp2_with fail
      go_ret
      exact ⟨rfl, hbe.trans (hb3.mono hzw)⟩

end Go.Proofs.YthomlchbgcjcfaaGreatDoor

namespace Go.Proofs.YthomlchbgcjcfaaGreatDoor
open Go.RowKit Go.Shelf

theorem parts_init {w : World} {R : Value → Ty → Prop} {a : Option Addr} {l c : Nat} {ks : List Ty} {z : Ty} (h : PartsAt w R (.slice a l c) (ks ++ [z])) : ∃ b off u, a = some ⟨b, off, none⟩ ∧ l = ks.length + 1 ∧ ks.length + 1 ≤ c ∧ PartsAt w R (.slice a ks.length c) ks ∧ w.cell? ⟨b, off + ks.length, none⟩ = some u ∧ R u z := by
  rcases h with ⟨h, _⟩ | ⟨b, off, cap, e, hcap, hc⟩
  · simp at h
  · simp only [Value.slice.injEq, List.length_append, List.length_singleton] at e
    obtain ⟨rfl, rfl, rfl⟩ := e
    rw [List.length_append, List.length_singleton] at hcap
    obtain ⟨u, h1, h2⟩ := hc ks.length (by simp)
    have e1 : (ks ++ [z])[ks.length]'(by simp) = z := by simp
    rw [e1] at h2
    refine ⟨b, off, u, rfl, rfl, hcap, .inr ⟨b, off, c, rfl, by omega, fun j hj => ?_⟩, h1, h2⟩
    obtain ⟨u', g1, g2⟩ := hc j (by rw [List.length_append, List.length_singleton]; omega)
    rw [List.getElem_append_left hj] at g2
    exact ⟨u', g1, g2⟩

set_option maxHeartbeats 1600000 in
set_option maxRecDepth 100000 in
theorem implFnText (n : Nat) (ih : TextOfAt n) (a : Option Addr) (l c : Nat) (ks : List Ty) (z : Ty) (d : Int) (w : World) (hp : PartsAt w (FormAt w n) (.slice a l c) (ks ++ [z])) (hr : ∀ q ∈ ks ++ [z], Right n q d) (hbk : rowBulk n (ks ++ [z]) ≤ 1048576) :
    Calls Tryz.prog 59 #[.agg #[.slice a l c]] w fun e w' => e = .returned (.string (⟨#[40]⟩ ++ joinP ⟨#[44, 32]⟩ (textsP n ks) ++ ⟨#[41, 32, 45, 62, 32]⟩ ++ roundP 7 z (Ty.text n z))) ∧ Below w.heap.size w w' := by
  obtain ⟨b, off, u, rfl, rfl, hcap, hpi, hu, hfz⟩ := parts_init hp
  obtain ⟨T, x, rfl⟩ := form_iface hfz
  have hb : b < w.heap.size := World.block_lt_of_cell? w _ hu
  have hbz : Ty.bulk n z ≤ 1048576 ∧ rowBulk n ks ≤ 1048576 := by
    unfold rowBulk at hbk ⊢
    rw [List.map_append, List.sum_append, List.length_append] at hbk
    simp at hbk
    omega
  have hlen : ks.length ≤ 1048576 := by have := hbz.2; unfold rowBulk at this; omega
  have hrz : Right n z d := hr z (by simp)
  have hri : ∀ q ∈ ks, Right n q d := fun q hq => hr q (List.mem_append_left _ hq)
  obtain ⟨ax, lx, cx, hAS⟩ := assertUnion hfz (right_kind hrz)
  have HTX : Hid (∀ wx : World, Below w.heap.size w wx → Calls Tryz.prog 56 #[.slice (some ⟨b, off, none⟩) ks.length c] wx fun e w' => ∃ (a : Option Addr) (c : Nat), e = .returned (.slice a ks.length c) ∧ w'.ownsRow wx.heap.size 9 1 (.slice a ks.length c) ks.length (strV (textsP n ks)) ∧ Below wx.heap.size wx w') := fun wx hx => implTexts n ih _ ks d wx (hpi.below hx fun u t _ h => h.below hx) hri hbz.2
  have HTO : Hid (∀ wx : World, Below w.heap.size w wx → Calls Tryz.prog 43 #[.iface T x] wx fun e w' => e = .returned (.string (Ty.text n z)) ∧ Below wx.heap.size wx w') := fun wx hx => ih _ z d wx (hfz.below hx) hrz hbz.1
  have hzs : (Ty.text n z).size ≤ 100000000 := by have := text_size n z; omega
  have hjs : (joinP ⟨#[44, 32]⟩ (textsP n ks)).size ≤ 200000000 := by
    have h1 := joinP_size ⟨#[44, 32]⟩ (textsP n ks)
    have h3 := rowText_size n ks hbz.2
    have e : (⟨#[44, 32]⟩ : ByteArray).size = 2 := rfl
    rw [e, textsP_len] at h1
    omega
  have HJO : Hid (∀ (a : Option Addr) (c' B : Nat) (wx : World), wx.ownsRow B 9 1 (.slice a ks.length c') ks.length (strV (textsP n ks)) → Calls Tryz.prog 83 #[.slice a ks.length c', .string ⟨#[44, 32]⟩] wx fun e w' => e = .returned (.string (joinP ⟨#[44, 32]⟩ (textsP n ks))) ∧ Below wx.heap.size wx w') := fun a c' B wx ho => stringsJoinOwn _ ks.length (textsP n ks) _ wx (textsP_len n ks).symm ho (by rw [textsP_len]; exact hlen) (by omega)
  have hRP : (z.kind = 7 → roundP 7 z (Ty.text n z) = ⟨#[40]⟩ ++ Ty.text n z ++ ⟨#[41]⟩) ∧ (z.kind ≠ 7 → roundP 7 z (Ty.text n z) = Ty.text n z) := ⟨fun c => if_pos c, fun c => if_neg c⟩
  have HRP : Hid (type_of% hRP) := hRP
  have hB1 : Below w.heap.size w (w.alloc (.cells #[.slice (some ⟨b, off, none⟩) (ks.length + 1) c] 78)) := (Below.refl _ _).alloc (Nat.le_refl _) _
  have HK1 : Hid (∀ wx : World, Calls Tryz.prog 25 #[.agg #[.slice (some ⟨b, off, none⟩) (ks.length + 1) c]] wx fun e w' => e = .returned (.slice (some ⟨b, off, none⟩) (ks.length + 1) c) ∧ w' = wx.alloc (.cells #[.slice (some ⟨b, off, none⟩) (ks.length + 1) c] 56)) := fun wx => implKids _ _ c wx
  clear hp hpi hr hri hrz hbk hbz ih hRP hfz
  generalize textsP n ks = TT at *
  generalize Ty.text n z = tz at *
  generalize roundP 7 z tz = rz at *
  generalize hJ : joinP ⟨#[44, 32]⟩ TT = jt at *
  clear hJ
  generalize ks.length = m at *
  go_enter Tryz.func59, Tryz.ntmps59
  go_wp2_with fail
  refine (HK1.out _).mono ?_
  rintro e w1 ⟨rfl, rfl⟩
  have hB2 := hB1.alloc (by simp) (.cells #[.slice (some ⟨b, off, none⟩) (m + 1) c] 56)
  go_wp2_with fail
  refine (HTX.out _ hB2).mono ?_
  rintro e w2 ⟨aT, cT, rfl, ho, hb2⟩
  have hb02 : Below w.heap.size w w2 := hB2.trans (hb2.mono (by simp; omega))
  have HJ := HJO.out aT cT _ w2 ho
  clear ho hb2 HTX HK1 hB1 hB2 HJO
  have HJ2 : Hid (type_of% HJ) := HJ
  clear HJ
  go_wp2_with fail
  refine HJ2.out.mono ?_
  rintro e w3 ⟨rfl, hb3⟩
  have hb03 : Below w.heap.size w w3 := hb02.trans (hb3.mono hb02.size)
  have C3 := (hb03.cell (p := ⟨b, off + m, none⟩) hb).trans hu
  clear hb02 hb3 HJ2
  go_wp2_with fail
  refine (HTO.out _ hb03).mono ?_
  rintro e w4 ⟨rfl, hb4⟩
  have hb04 : Below w.heap.size w w4 := hb03.trans (hb4.mono hb03.size)
  have C4 := (hb04.cell (p := ⟨b, off + m, none⟩) hb).trans hu
  have hz4 : w.heap.size ≤ w4.heap.size := hb04.size
  have hal : Below w.heap.size w (w4.alloc (.cells #[.slice ax lx cx] 59)) := hb04.alloc hz4 _
  clear hb03 hb4 C3 HTO
  by_cases h7 : z.kind = 7
  · rw [decide_eq_true h7] at hAS
    have HE := HRP.out.1 h7
    have HJ3 := join3 ⟨#[40]⟩ tz ⟨#[41]⟩ (w4.heap.size + 1) (w4.alloc (.cells #[.slice ax lx cx] 59)) (by simp) (by decide) (by omega) (by decide)
    rw [← HE] at HJ3
    have hrs : rz.size ≤ 200000000 := by
      rw [HE]
      simp only [ByteArray.size_append]
      have e1 : (⟨#[40]⟩ : ByteArray).size = 1 := rfl
      have e2 : (⟨#[41]⟩ : ByteArray).size = 1 := rfl
      omega
    have HJ4 : Hid (type_of% HJ3) := HJ3
    clear HE HJ3 HRP h7
    go_wp2_with fail
    refine HJ4.out.mono ?_
    rintro e w5 ⟨rfl, hb5⟩
    have hb05 : Below w.heap.size w w5 := hal.trans (hb5.mono (by simp; omega))
    have HJ5 : Hid (type_of% (join4 ⟨#[40]⟩ jt ⟨#[41, 32, 45, 62, 32]⟩ rz w5.heap.size w5 rfl (by decide) (by omega) (by decide) (by omega))) := join4 ⟨#[40]⟩ jt ⟨#[41, 32, 45, 62, 32]⟩ rz w5.heap.size w5 rfl (by decide) (by omega) (by decide) (by omega)
    clear hal hb5 HJ4
    go_wp2_with fail
    refine HJ5.out.mono ?_
    rintro e w6 ⟨rfl, hb6⟩
    go_wp2_with fail
    go_ret
    exact ⟨rfl, hb05.trans (hb6.mono hb05.size)⟩
  · rw [decide_eq_false h7] at hAS
    have HE := HRP.out.2 h7
    subst HE
    have HJ5 : Hid (type_of% (join4 ⟨#[40]⟩ jt ⟨#[41, 32, 45, 62, 32]⟩ rz (w4.heap.size + 1) (w4.alloc (.cells #[.slice ax lx cx] 59)) (by simp) (by decide) (by omega) (by decide) (by omega))) := join4 ⟨#[40]⟩ jt ⟨#[41, 32, 45, 62, 32]⟩ rz (w4.heap.size + 1) (w4.alloc (.cells #[.slice ax lx cx] 59)) (by simp) (by decide) (by omega) (by decide) (by omega)
    clear HRP h7
    go_wp2_with fail
    refine HJ5.out.mono ?_
    rintro e w6 ⟨rfl, hb6⟩
    go_wp2_with fail
    go_ret
    exact ⟨rfl, hal.trans (hb6.mono (by simp; omega))⟩

end Go.Proofs.YthomlchbgcjcfaaGreatDoor

namespace Go.Proofs.YthomlchbgcjcfaaGreatDoor
open Go.RowKit Go.Shelf

set_option maxHeartbeats 1600000 in
set_option maxRecDepth 100000 in
theorem implText1 (a : Option Addr) (l c : Nat) (w : World) :
    Calls Tryz.prog 43 #[.iface 70 (.agg #[.slice a l c])] w fun e w' => e = .returned (.string ⟨#[116, 101, 120, 116]⟩) ∧ Below w.heap.size w w' := by
  have hB1 : Below w.heap.size w (w.alloc (.cells #[.slice a l c] 70)) := (Below.refl _ _).alloc (Nat.le_refl _) _
  have t0 : ∀ w : World, (Instr.typeAssert (.iface 70 (.agg #[.slice a l c])) 41 69 true).run Tryz.prog w = .ok (.tuple #[.agg #[.slice none 0 0], .bool false]) w := fun w => by kernel_rfl
  have t1 : ∀ w : World, (Instr.typeAssert (.iface 70 (.agg #[.slice a l c])) 41 70 true).run Tryz.prog w = .ok (.tuple #[.agg #[.slice a l c], .bool true]) w := fun w => by kernel_rfl
  go_enter Tryz.func43, Tryz.ntmps43
  go_wp2
  go_ret
  exact ⟨rfl, hB1⟩

set_option maxHeartbeats 1600000 in
set_option maxRecDepth 100000 in
theorem implText2 (a : Option Addr) (l c : Nat) (w : World) :
    Calls Tryz.prog 43 #[.iface 71 (.agg #[.slice a l c])] w fun e w' => e = .returned (.string ⟨#[98, 111, 111, 108]⟩) ∧ Below w.heap.size w w' := by
  have hB1 : Below w.heap.size w (w.alloc (.cells #[.slice a l c] 71)) := (Below.refl _ _).alloc (Nat.le_refl _) _
  have t0 : ∀ w : World, (Instr.typeAssert (.iface 71 (.agg #[.slice a l c])) 41 69 true).run Tryz.prog w = .ok (.tuple #[.agg #[.slice none 0 0], .bool false]) w := fun w => by kernel_rfl
  have t1 : ∀ w : World, (Instr.typeAssert (.iface 71 (.agg #[.slice a l c])) 41 70 true).run Tryz.prog w = .ok (.tuple #[.agg #[.slice none 0 0], .bool false]) w := fun w => by kernel_rfl
  have t2 : ∀ w : World, (Instr.typeAssert (.iface 71 (.agg #[.slice a l c])) 41 71 true).run Tryz.prog w = .ok (.tuple #[.agg #[.slice a l c], .bool true]) w := fun w => by kernel_rfl
  go_enter Tryz.func43, Tryz.ntmps43
  go_wp2
  go_ret
  exact ⟨rfl, hB1⟩

set_option maxHeartbeats 1600000 in
set_option maxRecDepth 100000 in
theorem implText3 (a : Option Addr) (l c : Nat) (w : World) :
    Calls Tryz.prog 43 #[.iface 58 (.agg #[.slice a l c])] w fun e w' => e = .returned (.string ⟨#[97, 110, 121]⟩) ∧ Below w.heap.size w w' := by
  have hB1 : Below w.heap.size w (w.alloc (.cells #[.slice a l c] 58)) := (Below.refl _ _).alloc (Nat.le_refl _) _
  have t0 : ∀ w : World, (Instr.typeAssert (.iface 58 (.agg #[.slice a l c])) 41 69 true).run Tryz.prog w = .ok (.tuple #[.agg #[.slice none 0 0], .bool false]) w := fun w => by kernel_rfl
  have t1 : ∀ w : World, (Instr.typeAssert (.iface 58 (.agg #[.slice a l c])) 41 70 true).run Tryz.prog w = .ok (.tuple #[.agg #[.slice none 0 0], .bool false]) w := fun w => by kernel_rfl
  have t2 : ∀ w : World, (Instr.typeAssert (.iface 58 (.agg #[.slice a l c])) 41 71 true).run Tryz.prog w = .ok (.tuple #[.agg #[.slice none 0 0], .bool false]) w := fun w => by kernel_rfl
  have t3 : ∀ w : World, (Instr.typeAssert (.iface 58 (.agg #[.slice a l c])) 41 58 true).run Tryz.prog w = .ok (.tuple #[.agg #[.slice a l c], .bool true]) w := fun w => by kernel_rfl
  go_enter Tryz.func43, Tryz.ntmps43
  go_wp2
  go_ret
  exact ⟨rfl, hB1⟩

set_option maxHeartbeats 1600000 in
set_option maxRecDepth 100000 in
theorem implText5 (a an : Option Addr) (l c ln cn : Nat) (s : ByteArray) (w : World) (hs : s.size ≤ 1000000000) (h : ∀ wx : World, Below w.heap.size w wx → Calls Tryz.prog 58 #[.agg #[.slice a l c, .slice an ln cn]] wx fun e w' => e = .returned (.string s) ∧ Below wx.heap.size wx w') :
    Calls Tryz.prog 43 #[.iface 76 (.agg #[.slice a l c, .slice an ln cn])] w fun e w' => e = .returned (.string (⟨#[123]⟩ ++ s ++ ⟨#[125]⟩)) ∧ Below w.heap.size w w' := by
  have hB1 : Below w.heap.size w (w.alloc (.cells #[.slice a l c, .slice an ln cn] 76)) := (Below.refl _ _).alloc (Nat.le_refl _) _
  have H : Hid (type_of% h) := h
  clear h
  have t0 : ∀ w : World, (Instr.typeAssert (.iface 76 (.agg #[.slice a l c, .slice an ln cn])) 41 69 true).run Tryz.prog w = .ok (.tuple #[.agg #[.slice none 0 0], .bool false]) w := fun w => by kernel_rfl
  have t1 : ∀ w : World, (Instr.typeAssert (.iface 76 (.agg #[.slice a l c, .slice an ln cn])) 41 70 true).run Tryz.prog w = .ok (.tuple #[.agg #[.slice none 0 0], .bool false]) w := fun w => by kernel_rfl
  have t2 : ∀ w : World, (Instr.typeAssert (.iface 76 (.agg #[.slice a l c, .slice an ln cn])) 41 71 true).run Tryz.prog w = .ok (.tuple #[.agg #[.slice none 0 0], .bool false]) w := fun w => by kernel_rfl
  have t3 : ∀ w : World, (Instr.typeAssert (.iface 76 (.agg #[.slice a l c, .slice an ln cn])) 41 58 true).run Tryz.prog w = .ok (.tuple #[.agg #[.slice none 0 0], .bool false]) w := fun w => by kernel_rfl
  have t4 : ∀ w : World, (Instr.typeAssert (.iface 76 (.agg #[.slice a l c, .slice an ln cn])) 41 73 true).run Tryz.prog w = .ok (.tuple #[.agg #[.slice none 0 0, .string ⟨#[]⟩], .bool false]) w := fun w => by kernel_rfl
  have t5 : ∀ w : World, (Instr.typeAssert (.iface 76 (.agg #[.slice a l c, .slice an ln cn])) 41 76 true).run Tryz.prog w = .ok (.tuple #[.agg #[.slice a l c, .slice an ln cn], .bool true]) w := fun w => by kernel_rfl
  go_enter Tryz.func43, Tryz.ntmps43
  go_wp2_with fail
  refine (H.out _ hB1).mono ?_
  rintro e w2 ⟨rfl, hb2⟩
  have hb02 := hB1.trans (hb2.mono (by simp))
  have HJ : Hid (type_of% (join3 ⟨#[123]⟩ s ⟨#[125]⟩ w2.heap.size w2 rfl (by decide) (by omega) (by decide))) := join3 ⟨#[123]⟩ s ⟨#[125]⟩ w2.heap.size w2 rfl (by decide) (by omega) (by decide)
  go_wp2_with fail
  refine HJ.out.mono ?_
  rintro e w3 ⟨rfl, hb3⟩
  go_wp2_with fail
  go_ret
  exact ⟨rfl, hb02.trans (hb3.mono hb02.size)⟩

set_option maxHeartbeats 1600000 in
set_option maxRecDepth 100000 in
theorem implText6 (a : Option Addr) (l c : Nat) (s : ByteArray) (w : World) (h : ∀ wx : World, Below w.heap.size w wx → Calls Tryz.prog 59 #[.agg #[.slice a l c]] wx fun e w' => e = .returned (.string s) ∧ Below wx.heap.size wx w') :
    Calls Tryz.prog 43 #[.iface 78 (.agg #[.slice a l c])] w fun e w' => e = .returned (.string s) ∧ Below w.heap.size w w' := by
  have hB1 : Below w.heap.size w (w.alloc (.cells #[.slice a l c] 78)) := (Below.refl _ _).alloc (Nat.le_refl _) _
  have H : Hid (type_of% h) := h
  clear h
  have t0 : ∀ w : World, (Instr.typeAssert (.iface 78 (.agg #[.slice a l c])) 41 69 true).run Tryz.prog w = .ok (.tuple #[.agg #[.slice none 0 0], .bool false]) w := fun w => by kernel_rfl
  have t1 : ∀ w : World, (Instr.typeAssert (.iface 78 (.agg #[.slice a l c])) 41 70 true).run Tryz.prog w = .ok (.tuple #[.agg #[.slice none 0 0], .bool false]) w := fun w => by kernel_rfl
  have t2 : ∀ w : World, (Instr.typeAssert (.iface 78 (.agg #[.slice a l c])) 41 71 true).run Tryz.prog w = .ok (.tuple #[.agg #[.slice none 0 0], .bool false]) w := fun w => by kernel_rfl
  have t3 : ∀ w : World, (Instr.typeAssert (.iface 78 (.agg #[.slice a l c])) 41 58 true).run Tryz.prog w = .ok (.tuple #[.agg #[.slice none 0 0], .bool false]) w := fun w => by kernel_rfl
  have t4 : ∀ w : World, (Instr.typeAssert (.iface 78 (.agg #[.slice a l c])) 41 73 true).run Tryz.prog w = .ok (.tuple #[.agg #[.slice none 0 0, .string ⟨#[]⟩], .bool false]) w := fun w => by kernel_rfl
  have t5 : ∀ w : World, (Instr.typeAssert (.iface 78 (.agg #[.slice a l c])) 41 76 true).run Tryz.prog w = .ok (.tuple #[.agg #[.slice none 0 0, .slice none 0 0], .bool false]) w := fun w => by kernel_rfl
  have t6 : ∀ w : World, (Instr.typeAssert (.iface 78 (.agg #[.slice a l c])) 41 78 true).run Tryz.prog w = .ok (.tuple #[.agg #[.slice a l c], .bool true]) w := fun w => by kernel_rfl
  go_enter Tryz.func43, Tryz.ntmps43
  go_wp2_with fail
  refine (H.out _ hB1).mono ?_
  rintro e w2 ⟨rfl, hb2⟩
  go_wp2_with fail
  go_ret
  exact ⟨rfl, hB1.trans (hb2.mono (by simp))⟩

set_option maxHeartbeats 1600000 in
set_option maxRecDepth 100000 in
theorem implText7 (a : Option Addr) (l c : Nat) (s : ByteArray) (w : World) (h : ∀ wx : World, Below w.heap.size w wx → Calls Tryz.prog 60 #[.agg #[.slice a l c]] wx fun e w' => e = .returned (.string s) ∧ Below wx.heap.size wx w') :
    Calls Tryz.prog 43 #[.iface 59 (.agg #[.slice a l c])] w fun e w' => e = .returned (.string s) ∧ Below w.heap.size w w' := by
  have hB1 : Below w.heap.size w (w.alloc (.cells #[.slice a l c] 59)) := (Below.refl _ _).alloc (Nat.le_refl _) _
  have H : Hid (type_of% h) := h
  clear h
  have t0 : ∀ w : World, (Instr.typeAssert (.iface 59 (.agg #[.slice a l c])) 41 69 true).run Tryz.prog w = .ok (.tuple #[.agg #[.slice none 0 0], .bool false]) w := fun w => by kernel_rfl
  have t1 : ∀ w : World, (Instr.typeAssert (.iface 59 (.agg #[.slice a l c])) 41 70 true).run Tryz.prog w = .ok (.tuple #[.agg #[.slice none 0 0], .bool false]) w := fun w => by kernel_rfl
  have t2 : ∀ w : World, (Instr.typeAssert (.iface 59 (.agg #[.slice a l c])) 41 71 true).run Tryz.prog w = .ok (.tuple #[.agg #[.slice none 0 0], .bool false]) w := fun w => by kernel_rfl
  have t3 : ∀ w : World, (Instr.typeAssert (.iface 59 (.agg #[.slice a l c])) 41 58 true).run Tryz.prog w = .ok (.tuple #[.agg #[.slice none 0 0], .bool false]) w := fun w => by kernel_rfl
  have t4 : ∀ w : World, (Instr.typeAssert (.iface 59 (.agg #[.slice a l c])) 41 73 true).run Tryz.prog w = .ok (.tuple #[.agg #[.slice none 0 0, .string ⟨#[]⟩], .bool false]) w := fun w => by kernel_rfl
  have t5 : ∀ w : World, (Instr.typeAssert (.iface 59 (.agg #[.slice a l c])) 41 76 true).run Tryz.prog w = .ok (.tuple #[.agg #[.slice none 0 0, .slice none 0 0], .bool false]) w := fun w => by kernel_rfl
  have t6 : ∀ w : World, (Instr.typeAssert (.iface 59 (.agg #[.slice a l c])) 41 78 true).run Tryz.prog w = .ok (.tuple #[.agg #[.slice none 0 0], .bool false]) w := fun w => by kernel_rfl
  have t7 : ∀ w : World, (Instr.typeAssert (.iface 59 (.agg #[.slice a l c])) 41 59 true).run Tryz.prog w = .ok (.tuple #[.agg #[.slice a l c], .bool true]) w := fun w => by kernel_rfl
  go_enter Tryz.func43, Tryz.ntmps43
  go_wp2_with fail
  refine (H.out _ hB1).mono ?_
  rintro e w2 ⟨rfl, hb2⟩
  go_wp2_with fail
  go_ret
  exact ⟨rfl, hB1.trans (hb2.mono (by simp))⟩

theorem implTextOf (n : Nat) : TextOfAt n := by
  induction n with
  | zero => intro v t d w h; exact h.elim
  | succ n ih =>
    intro v t d w h hr hb
    obtain ⟨a, c, an, cn, hP, hT, hc⟩ := h.cases
    have hbe : Ty.bulk (n + 1) t = t.name.size + (t.names.length + Ty.textsBulk t.names) + rowBulk n t.kids := rfl
    have hbk : rowBulk n t.kids ≤ 1048576 := by omega
    have hkr : ∀ q ∈ t.kids, Right n q (d - 1) := hr.2.1
    have hfine := hr.fine
    rcases hc with ⟨k, rfl⟩ | ⟨k, rfl⟩ | ⟨k, rfl⟩ | ⟨k, rfl⟩ | ⟨k, rfl⟩ | ⟨k, rfl⟩ | ⟨k, rfl⟩ | ⟨k, rfl⟩
    · have e : Ty.text (n + 1) t = ⟨#[105, 110, 116]⟩ := by rw [show Ty.text (n + 1) t = _ from Ty.text.eq_2 t n]; rw [if_pos k]
      rw [e]; exact implTextInt _ _ _ w
    · have e : Ty.text (n + 1) t = ⟨#[116, 101, 120, 116]⟩ := by rw [show Ty.text (n + 1) t = _ from Ty.text.eq_2 t n]; rw [if_neg (by omega), if_pos k]
      rw [e]; exact implText1 _ _ _ w
    · have e : Ty.text (n + 1) t = ⟨#[98, 111, 111, 108]⟩ := by rw [show Ty.text (n + 1) t = _ from Ty.text.eq_2 t n]; rw [if_neg (by omega), if_neg (by omega), if_pos k]
      rw [e]; exact implText2 _ _ _ w
    · have e : Ty.text (n + 1) t = ⟨#[97, 110, 121]⟩ := by rw [show Ty.text (n + 1) t = _ from Ty.text.eq_2 t n]; rw [if_neg (by omega), if_neg (by omega), if_neg (by omega), if_pos k]
      rw [e]; exact implText3 _ _ _ w
    · have e : Ty.text (n + 1) t = t.name := by rw [show Ty.text (n + 1) t = _ from Ty.text.eq_2 t n]; rw [if_neg (by omega), if_neg (by omega), if_neg (by omega), if_neg (by omega), if_pos k]
      rw [e]; exact implTextName _ _ _ t.name w (by omega)
    · have e : Ty.text (n + 1) t = ⟨#[123]⟩ ++ joinP ⟨#[44, 32]⟩ (fieldsP (Ty.text n) t.names t.kids) ++ ⟨#[125]⟩ := by rw [show Ty.text (n + 1) t = _ from Ty.text.eq_2 t n]; rw [if_neg (by omega), if_neg (by omega), if_neg (by omega), if_neg (by omega), if_neg (by omega), if_pos k]
      rw [e]
      refine implText5 _ _ _ _ _ _ _ w ?_ fun wx hx => implFieldsText n ih _ _ t.names t.kids (d - 1) wx (hP.below hx fun u t _ h => h.below hx) (hT.below hx) (hfine.1 k) hkr (by omega)
      have h1 := joinP_size ⟨#[44, 32]⟩ (fieldsP (Ty.text n) t.names t.kids)
      have h2 := kids_fields (n := n) t.names t.kids
      have h3 := rowText_size n t.kids hbk
      have e1 : (⟨#[44, 32]⟩ : ByteArray).size = 2 := rfl
      have e2 : t.kids.length ≤ 1048576 := by unfold rowBulk at hbk; omega
      unfold textsP at h3
      rw [e1] at h1
      omega
    · have e : Ty.text (n + 1) t = ⟨#[40]⟩ ++ joinP ⟨#[44, 32]⟩ (textsP n t.kids.dropLast) ++ ⟨#[41, 32, 45, 62, 32]⟩ ++ roundP 7 (lastTy t.kids) (Ty.text n (lastTy t.kids)) := by rw [show Ty.text (n + 1) t = _ from Ty.text.eq_2 t n]; rw [if_neg (by omega), if_neg (by omega), if_neg (by omega), if_neg (by omega), if_neg (by omega), if_neg (by omega), if_pos k]; rfl
      have hne : t.kids ≠ [] := hfine.2.1 k
      have hsp : t.kids.dropLast ++ [lastTy t.kids] = t.kids := by
        unfold lastTy
        rw [List.getLastD_eq_getLast?, List.getLast?_eq_some_getLast hne]
        exact List.dropLast_concat_getLast hne
      rw [e]
      refine implText6 _ _ _ _ w fun wx hx => implFnText n ih _ _ _ t.kids.dropLast (lastTy t.kids) (d - 1) wx ?_ ?_ ?_
      · rw [hsp]; exact hP.below hx fun u t _ h => h.below hx
      · rw [hsp]; exact hkr
      · rw [hsp]; exact hbk
    · have e : Ty.text (n + 1) t = joinP ⟨#[32, 124, 32]⟩ (t.kids.map fun k => roundP 6 k (Ty.text n k)) := by rw [show Ty.text (n + 1) t = _ from Ty.text.eq_2 t n]; rw [if_neg (by omega), if_neg (by omega), if_neg (by omega), if_neg (by omega), if_neg (by omega), if_neg (by omega), if_neg (by omega)]
      rw [e]
      exact implText7 _ _ _ _ w fun wx hx => implUnionText n ih _ t.kids (d - 1) wx (hP.below hx fun u t _ h => h.below hx) hkr hbk

end Go.Proofs.YthomlchbgcjcfaaGreatDoor

namespace Go.Proofs.YthomlchbgcjcfaaGreatDoor
open Go.RowKit Go.Shelf

/-- whether these are right as a union's -/
def KidsRight (n : Nat) (ks : List Ty) : Prop := 2 ≤ ks.length ∧ (∀ q ∈ ks, q.kind ≠ 3 ∧ q.kind ≠ 7) ∧ Ascend (textsP n ks)

set_option maxHeartbeats 1600000 in
set_option maxRecDepth 100000 in
open Classical in
theorem implUnionKidsOk (n : Nat) (vp : Value) (ks : List Ty) (d : Int) (w : World) (hp : PartsAt w (FormAt w n) vp ks) (hr : ∀ q ∈ ks, Right n q d) (hbk : rowBulk n ks ≤ 1048576) :
    Calls Tryz.prog 39 #[vp] w fun e w' => e = .returned (.bool (decide (KidsRight n ks))) ∧ Below w.heap.size w w' := by
  obtain ⟨av, capv, rfl, hel⟩ := partsOpen hp
  have hlen : ks.length ≤ 1048576 := by unfold rowBulk at hbk; omega
  have HTX : Hid (∀ wx : World, Below w.heap.size w wx → Calls Tryz.prog 56 #[.slice av ks.length capv] wx fun e w' => ∃ (a : Option Addr) (c : Nat), e = .returned (.slice a ks.length c) ∧ w'.ownsRow wx.heap.size 9 1 (.slice a ks.length c) ks.length (strV (textsP n ks)) ∧ Below wx.heap.size wx w') := fun wx hx => implTexts n (implTextOf n) _ ks d wx (hp.below hx fun u t _ h => h.below hx) hr hbk
  have HEL : Hid (∀ k (hk : k < ks.length), ∃ b off T x, av = some ⟨b, off, none⟩ ∧ b < w.heap.size ∧ w.cell? ⟨b, off + k, none⟩ = some (.iface T x) ∧ (∃ a l c, ∀ wx : World, (Instr.typeAssert (.iface T x) 41 58 true).run Tryz.prog wx = .ok (.tuple #[.agg #[.slice a l c], .bool (decide (ks[k].kind = 3))]) wx) ∧ (∃ a l c, ∀ wx : World, (Instr.typeAssert (.iface T x) 41 59 true).run Tryz.prog wx = .ok (.tuple #[.agg #[.slice a l c], .bool (decide (ks[k].kind = 7))]) wx)) := fun k hk => by
    obtain ⟨b, off, u, h1, h2, h3⟩ := hel k hk
    obtain ⟨T, x, rfl⟩ := form_iface h3
    exact ⟨b, off, T, x, h1, World.block_lt_of_cell? w ⟨b, off + k, none⟩ h2, h2, assertAny h3, assertUnion h3 (right_kind (hr _ (List.getElem_mem hk)))⟩
  obtain ⟨RR, hRR⟩ : ∃ RR, RR = decide (KidsRight n ks) := ⟨_, rfl⟩
  rw [← hRR]
  have HNO : Hid (¬ KidsRight n ks → RR = false) := fun h => by rw [hRR]; exact decide_eq_false h
  have HYES : Hid (KidsRight n ks → RR = true) := fun h => by rw [hRR]; exact decide_eq_true h
  have HTL : Hid ((textsP n ks).length = ks.length) := textsP_len n ks
  clear hRR hp hr hbk hel
  by_cases h2 : ks.length < 2
  · have HR : Hid (RR = false) := HNO.out fun h => by have := h.1; omega
    clear HTX HEL HNO HYES HTL
    go_enter Tryz.func39, Tryz.ntmps39
    go_wp2_with fail
    go_ret
    exact ⟨by rw [HR.out]; rfl, Below.refl _ _⟩
  · go_enter Tryz.func39, Tryz.ntmps39
    go_wp2_with fail
    go_loopw [10] (fun i wr => ∃ (k : Nat), k ≤ ks.length ∧ i = .int .i64 k ∧ (∀ j (hj : j < ks.length), j < k → ks[j].kind ≠ 3 ∧ ks[j].kind ≠ 7) ∧ Below w.heap.size w wr) (fun i _ => ks.length - (intOf i).toNat)
    case atStart => exact ⟨0, Nat.zero_le _, rfl, fun j _ h => absurd h (by omega), Below.refl _ _⟩
    case round =>
      obtain ⟨k, hk, rfl, hall, hbe⟩ := hrel
      have HALL : Hid (type_of% hall) := hall
      have hzw : w.heap.size ≤ wr.heap.size := hbe.size
      clear hall
      by_cases hlt : k < ks.length
      · obtain ⟨b, off, T, x, rfl, hb, c0, ⟨a1, l1, c1, hA1⟩, ⟨a2, l2, c2, hA2⟩⟩ := HEL.out k hlt
        have C0 := (hbe.cell (p := ⟨b, off + k, none⟩) hb).trans c0
        by_cases h3 : ks[k].kind = 3
        · have HR : Hid (RR = false) := HNO.out fun h => (h.2.1 _ (List.getElem_mem hlt)).1 h3
          rw [decide_eq_true h3] at hA1
          rw [decide_eq_false (by omega)] at hA2
          clear c0 HTX HEL HNO HYES HTL HALL h3
          go_wp2_with fail
          go_ret
          exact ⟨by rw [HR.out]; rfl, hbe⟩
        · rw [decide_eq_false h3] at hA1
          by_cases h7 : ks[k].kind = 7
          · have HR : Hid (RR = false) := HNO.out fun h => (h.2.1 _ (List.getElem_mem hlt)).2 h7
            rw [decide_eq_true h7] at hA2
            clear c0 HTX HEL HNO HYES HTL HALL h7 h3
            go_wp2_with fail
            go_ret
            exact ⟨by rw [HR.out]; rfl, hbe⟩
          · rw [decide_eq_false h7] at hA2
            have HA2 : Hid (∀ j (hj : j < ks.length), j < k + 1 → ks[j].kind ≠ 3 ∧ ks[j].kind ≠ 7) := fun j hj hjk => by
              by_cases c : j = k
              · subst c; exact ⟨h3, h7⟩
              · exact HALL.out j hj (by omega)
            clear c0 HTX HEL HNO HYES HTL HALL h7 h3
            go_wp2_with fail
            go_roundw
            case rel => exact ⟨k + 1, by omega, by go_num, HA2.out, hbe⟩
            case measure => simp [intOf]; omega
      · have HAQ : Hid (∀ q ∈ ks, q.kind ≠ 3 ∧ q.kind ≠ 7) := fun q hq => by
          obtain ⟨j, hj, rfl⟩ := List.getElem_of_mem hq
          exact HALL.out j hj (by omega)
        have HRA : Hid (decide (Ascend (textsP n ks)) = RR) := by
          show _ = _
          by_cases hA : Ascend (textsP n ks)
          · rw [decide_eq_true hA]; exact (HYES.out ⟨by omega, HAQ.out, hA⟩).symm
          · rw [decide_eq_false hA]; exact (HNO.out fun h => hA h.2.2).symm
        have HT2 := HTX.out wr hbe
        have HT : Hid (type_of% HT2) := HT2
        clear HT2 HTX HEL HNO HYES HALL HAQ
        go_wp2_with fail
        refine HT.out.mono ?_
        rintro e w2 ⟨a, c, rfl, ho, hb2⟩
        have hb02 : Below w.heap.size w w2 := hbe.trans (hb2.mono hzw)
        have hTx : Texts w2 (.slice a ks.length c) (textsP n ks) := by
          rcases ho.2 with ⟨hv, h0⟩ | ⟨g, cap, cur, hv, _⟩
          · omega
          · simp only [Value.slice.injEq, true_and] at hv
            obtain ⟨rfl, rfl⟩ := hv
            have ho' := ho
            rw [← HTL.out] at ho' ⊢
            exact Texts.own ho'
        have HA0 := implAscends _ _ w2 hTx (by rw [HTL.out]; omega)
        rw [HRA.out] at HA0
        have HA : Hid (type_of% HA0) := HA0
        clear HA0 hTx ho hb2 HT HRA HTL
        go_wp2_with fail
        refine HA.out.mono ?_
        rintro e w3 ⟨rfl, hb3⟩
        go_wp2_with fail
        go_ret
        exact ⟨rfl, hb02.trans (hb3.mono hb02.size)⟩

end Go.Proofs.YthomlchbgcjcfaaGreatDoor

namespace Go.Proofs.YthomlchbgcjcfaaGreatDoor
open Go.RowKit Go.Shelf

theorem ownAlone_iff (kd : Int) (nm : ByteArray) (ln lk : Nat) : ownAlone kd nm ln lk = true ↔ (kd = 4 ∨ nm.size = 0) ∧ (kd = 5 ∨ ln = 0) ∧ (5 ≤ kd ∨ lk = 0) := by
  unfold ownAlone
  simp only [Bool.and_eq_true, decide_eq_true_eq]
  exact ⟨fun h => ⟨h.1.1, h.1.2, h.2⟩, fun h => ⟨⟨h.1, h.2.1⟩, h.2.2⟩⟩

theorem right_alone {n : Nat} {t : Ty} (h : OwnRight n t) : ownAlone t.kind t.name t.names.length t.kids.length = true := by
  rw [ownAlone_iff]
  rcases h with ⟨h1, h2, h3, h4⟩ | ⟨h1, h2, h3, h4⟩ | ⟨h1, h2, h3, h4⟩ | ⟨h1, h2, h3, h4⟩ | ⟨h1, h2, h3, h4, h5⟩
  · exact ⟨.inr h2, .inr h3, .inr h4⟩
  · exact ⟨.inl h1, .inr h3, .inr h4⟩
  · exact ⟨.inr h3, .inl h1, .inl (by omega)⟩
  · exact ⟨.inr h2, .inr h3, .inl (by omega)⟩
  · exact ⟨.inr h3, .inr h4, .inl (by omega)⟩

theorem own_plain {n : Nat} {kd : Int} {nm : ByteArray} {nms : List ByteArray} {ks : List Ty} (hk : kd = 0 ∨ kd = 1 ∨ kd = 2 ∨ kd = 3) (h : ownAlone kd nm nms.length ks.length = true) : OwnRight n (.mk kd nm nms ks) := by
  rw [ownAlone_iff] at h
  exact .inl ⟨hk, by show nm.size = 0; omega, by show nms.length = 0; omega, by show ks.length = 0; omega⟩

theorem own_name {n : Nat} {nm : ByteArray} {nms : List ByteArray} {ks : List Ty} (h : ownAlone 4 nm nms.length ks.length = true) : OwnRight n (.mk 4 nm nms ks) ↔ dottedP nm = true := by
  rw [ownAlone_iff] at h
  constructor
  · rintro (⟨h1, _⟩ | ⟨_, h2, _⟩ | ⟨h1, _⟩ | ⟨h1, _⟩ | ⟨h1, _⟩)
    · exact absurd h1 (by show ¬ ((4 : Int) = 0 ∨ (4 : Int) = 1 ∨ (4 : Int) = 2 ∨ (4 : Int) = 3); omega)
    · exact h2
    · exact absurd h1 (by show ¬ (4 : Int) = 5; omega)
    · exact absurd h1 (by show ¬ (4 : Int) = 6; omega)
    · exact absurd h1 (by show ¬ (4 : Int) = 7; omega)
  · intro hd
    exact .inr (.inl ⟨rfl, hd, by show nms.length = 0; omega, by show ks.length = 0; omega⟩)

theorem own_record {n : Nat} {nm : ByteArray} {nms : List ByteArray} {ks : List Ty} (h : ownAlone 5 nm nms.length ks.length = true) : OwnRight n (.mk 5 nm nms ks) ↔ FieldsRight nms ks.length := by
  rw [ownAlone_iff] at h
  constructor
  · rintro (⟨h1, _⟩ | ⟨h1, _⟩ | ⟨_, h2, _, h4⟩ | ⟨h1, _⟩ | ⟨h1, _⟩)
    · exact absurd h1 (by show ¬ ((5 : Int) = 0 ∨ (5 : Int) = 1 ∨ (5 : Int) = 2 ∨ (5 : Int) = 3); omega)
    · exact absurd h1 (by show ¬ (5 : Int) = 4; omega)
    · refine ⟨fun x hx => ?_, h4, fun i hi h0 => (h2 i hi).2 h0⟩
      obtain ⟨j, hj, rfl⟩ := List.getElem_of_mem hx
      exact (h2 j hj).1
    · exact absurd h1 (by show ¬ (5 : Int) = 6; omega)
    · exact absurd h1 (by show ¬ (5 : Int) = 7; omega)
  · rintro ⟨h1, h2, h3⟩
    exact .inr (.inr (.inl ⟨rfl, fun i hi => ⟨h1 _ (List.getElem_mem hi), fun h0 => h3 i hi h0⟩, by show nm.size = 0; omega, h2⟩))

theorem own_fn {n : Nat} {nm : ByteArray} {nms : List ByteArray} {ks : List Ty} (h : ownAlone 6 nm nms.length ks.length = true) : OwnRight n (.mk 6 nm nms ks) ↔ 0 < ks.length := by
  rw [ownAlone_iff] at h
  constructor
  · rintro (⟨h1, _⟩ | ⟨h1, _⟩ | ⟨h1, _⟩ | ⟨_, _, _, h4⟩ | ⟨h1, _⟩)
    · exact absurd h1 (by show ¬ ((6 : Int) = 0 ∨ (6 : Int) = 1 ∨ (6 : Int) = 2 ∨ (6 : Int) = 3); omega)
    · exact absurd h1 (by show ¬ (6 : Int) = 4; omega)
    · exact absurd h1 (by show ¬ (6 : Int) = 5; omega)
    · exact h4
    · exact absurd h1 (by show ¬ (6 : Int) = 7; omega)
  · intro h1
    exact .inr (.inr (.inr (.inl ⟨rfl, by show nm.size = 0; omega, by show nms.length = 0; omega, h1⟩)))

theorem own_union {n : Nat} {nm : ByteArray} {nms : List ByteArray} {ks : List Ty} (h : ownAlone 7 nm nms.length ks.length = true) : OwnRight n (.mk 7 nm nms ks) ↔ KidsRight n ks := by
  rw [ownAlone_iff] at h
  constructor
  · rintro (⟨h1, _⟩ | ⟨h1, _⟩ | ⟨h1, _⟩ | ⟨h1, _⟩ | ⟨_, h2, _, _, h5⟩)
    · exact absurd h1 (by show ¬ ((7 : Int) = 0 ∨ (7 : Int) = 1 ∨ (7 : Int) = 2 ∨ (7 : Int) = 3); omega)
    · exact absurd h1 (by show ¬ (7 : Int) = 4; omega)
    · exact absurd h1 (by show ¬ (7 : Int) = 5; omega)
    · exact absurd h1 (by show ¬ (7 : Int) = 6; omega)
    · refine ⟨h5, fun q hq => ?_, fun i hi h0 => ?_⟩
      · obtain ⟨j, hj, rfl⟩ := List.getElem_of_mem hq
        exact ⟨(h2 j hj).1.2, (h2 j hj).1.1⟩
      · have hik : i < ks.length := by rw [textsP_len] at hi; exact hi
        have := (h2 i hik).2 h0
        rw [textsP_get n ks i hi hik, textsP_get n ks (i - 1) (by omega) (by omega)]
        exact this
  · rintro ⟨h1, h2, h3⟩
    refine .inr (.inr (.inr (.inr ⟨rfl, fun i hi => ⟨⟨(h2 _ (List.getElem_mem hi)).2, (h2 _ (List.getElem_mem hi)).1⟩, fun h0 => ?_⟩, by show nm.size = 0; omega, by show nms.length = 0; omega, h1⟩)))
    have hit : i < (textsP n ks).length := by rw [textsP_len]; exact hi
    have := h3 i hit h0
    rw [textsP_get n ks i hit hi, textsP_get n ks (i - 1) (by omega) (by have : i < ks.length := hi; omega)] at this
    exact this

theorem own_other {n : Nat} {kd : Int} {nm : ByteArray} {nms : List ByteArray} {ks : List Ty} (hk : kd < 0 ∨ 7 < kd) : ¬ OwnRight n (.mk kd nm nms ks) := by
  rintro (⟨h1, _⟩ | ⟨h1, _⟩ | ⟨h1, _⟩ | ⟨h1, _⟩ | ⟨h1, _⟩) <;> simp only at h1 <;> omega

theorem Texts.same {w w' : World} {v : Value} {ts : List ByteArray} (h : Texts w v ts) (hs : ∀ b, b < w.heap.size → w'.heap[b]? = w.heap[b]?) : Texts w' v ts := by
  rcases h with h | ⟨b, off, cap, rfl, hc⟩
  · exact .inl h
  · refine .inr ⟨b, off, cap, rfl, fun j hj => ?_⟩
    have h1 := hc j hj
    have hb : b < w.heap.size := World.block_lt_of_cell? w ⟨b, off + j, none⟩ h1
    rw [← h1]
    simp only [World.cell?, hs b hb]

theorem PartsIn.step {w w' : World} {B n lo hi lo' hi' : Nat} {v : Value} {ks : List Ty} (h : PartsIn w (FormIn w B n) lo hi v ks) (hb : Below w.heap.size w w') (hB : B ≤ w.heap.size) (hh : hi ≤ w.heap.size) (hl : lo' ≤ lo) (hi2 : hi ≤ hi') : PartsIn w' (FormIn w' B n) lo' hi' v ks := by
  rcases h with h | ⟨b, cap, e, g0, g1, g2, g3⟩
  · exact .inl h
  · refine .inr ⟨b, cap, e, g0, by omega, by omega, fun j hj => ?_⟩
    obtain ⟨l', h', u, q1, q2, q3, q4⟩ := g3 j hj
    refine ⟨l', h', u, by omega, by omega, ?_, q4.same (fun x hx => hb.block x (by omega)) fun x _ hx2 => hb.block x (by omega)⟩
    exact (hb.cell (p := ⟨b, j, none⟩) (World.block_lt_of_cell? w ⟨b, j, none⟩ q3)).trans q3

theorem PartsIn.parts {w : World} {B n lo hi : Nat} {v : Value} {ks : List Ty} (h : PartsIn w (FormIn w B n) lo hi v ks) : PartsAt w (FormAt w n) v ks := by
  rcases h with h | ⟨b, cap, e, g0, g1, g2, g3⟩
  · exact .inl h
  · refine .inr ⟨b, 0, cap, e, g0, fun j hj => ?_⟩
    obtain ⟨l', h', u, q1, q2, q3, q4⟩ := g3 j hj
    exact ⟨u, by rw [Nat.zero_add]; exact q3, q4.at⟩

end Go.Proofs.YthomlchbgcjcfaaGreatDoor
