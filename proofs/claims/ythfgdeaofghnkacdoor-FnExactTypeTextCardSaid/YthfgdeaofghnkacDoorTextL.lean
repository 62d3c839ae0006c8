/-
  The walks of impl.fieldsText, given textOf of the parts.
-/
import Derived.Test.YthfgdeaofghnkacDoorTextK
namespace Go.Proofs.YthfgdeaofghnkacDoor
open Go.RowKit Go.Shelf

theorem fieldsP_len (f : Ty → ByteArray) (nms : List ByteArray) (ks : List Ty) (h : nms.length = ks.length) : (fieldsP f nms ks).length = ks.length := by
  unfold fieldsP
  rw [List.length_zipWith]
  omega
theorem fieldsP_get (f : Ty → ByteArray) (nms : List ByteArray) (ks : List Ty) (k : Nat) (h1 : k < nms.length) (h2 : k < ks.length) (h : k < (fieldsP f nms ks).length) : (fieldsP f nms ks)[k] = nms[k] ++ ⟨#[58, 32]⟩ ++ f ks[k] := List.getElem_zipWith ..
theorem textsP_get (n : Nat) (ks : List Ty) (k : Nat) (h : k < (textsP n ks).length) (hk : k < ks.length) : (textsP n ks)[k] = Ty.text n ks[k] := List.getElem_map ..

theorem ownsRow_mono {w : World} {B B' e z : Nat} {v : Value} {n : Nat} {xs : List Value} (h : w.ownsRow B e z v n xs) (hB : B' ≤ B) : w.ownsRow B' e z v n xs := by
  refine ⟨h.1, ?_⟩
  rcases h.2 with h | ⟨g, cap, cur, h1, h2, h3⟩
  · exact .inl h
  · exact .inr ⟨g, cap, cur, h1, Nat.le_trans hB h2, h3⟩

set_option maxHeartbeats 1600000 in
set_option maxRecDepth 100000 in
theorem implFieldsText (n : Nat) (ih : TextOfAt n) (vp vn : Value) (nms : List ByteArray) (ks : List Ty) (d : Int) (w : World) (hp : PartsAt w (FormAt w n) vp ks) (hT : Texts w vn nms) (hnk : nms.length = ks.length) (hr : ∀ q ∈ ks, Right n q d) (hbk : Ty.textsBulk nms + rowBulk n ks ≤ 1048576) :
    Calls Tryd.prog 59 #[.agg #[vp, vn]] w fun e w' => e = .returned (.string (joinP ⟨#[44, 32]⟩ (fieldsP (Ty.text n) nms ks))) ∧ Below w.heap.size w w' := by
  have hbk2 : rowBulk n ks ≤ 1048576 := by omega
  obtain ⟨av, capv, rfl, _⟩ := partsOpen hp
  obtain ⟨an, cn, rfl, hcs⟩ : ∃ a cap, vn = .slice a nms.length cap ∧ ∀ j (h : j < nms.length), ∃ b off, a = some ⟨b, off, none⟩ ∧ w.cell? ⟨b, off + j, none⟩ = some (.string nms[j]) := by
    rcases hT with ⟨h, a, cap, e⟩ | ⟨b, off, cap, e, hc⟩
    · subst h; exact ⟨a, cap, e, fun j hj => absurd hj (by simp)⟩
    · exact ⟨_, cap, e, fun j hj => ⟨b, off, rfl, hc j hj⟩⟩
  have hlen : ks.length ≤ 1048576 := by unfold rowBulk at hbk2; omega
  have hnl : nms.length ≤ 1048576 := by omega
  have hB1 : Below w.heap.size w (w.alloc (.cells #[.slice av ks.length capv, .slice an nms.length cn] 91)) := (Below.refl _ _).alloc (Nat.le_refl _) _
  have HTX : Hid (∀ wx : World, Below w.heap.size w wx → Calls Tryd.prog 74 #[.slice av ks.length capv] wx fun e w' => ∃ (a : Option Addr) (c : Nat), e = .returned (.slice a ks.length c) ∧ w'.ownsRow wx.heap.size 9 1 (.slice a ks.length c) ks.length (strV (textsP n ks)) ∧ Below wx.heap.size wx w') := fun wx hx => implTexts n ih _ ks d wx (hp.below hx fun u t _ h => h.below hx) hr hbk2
  have HC : Hid (type_of% hcs) := hcs
  have HNS : Hid (∀ k (h : k < nms.length), nms[k].size ≤ 1048576) := fun k h => by have := textsBulk_mem nms _ (List.getElem_mem h); omega
  have HTS : Hid (∀ k (h : k < (textsP n ks).length), (textsP n ks)[k].size ≤ 100000000) := fun k h => by
    have hk : k < ks.length := by rw [textsP_len] at h; exact h
    have := oneText_size n ks hbk2 k hk
    rw [textsP_get n ks k h hk]
    exact this
  have HLF : Hid ((fieldsP (Ty.text n) nms ks).length = (textsP n ks).length ∧ (textsP n ks).length = ks.length) := ⟨by rw [fieldsP_len _ _ _ hnk, textsP_len], textsP_len n ks⟩
  have HFG : Hid (∀ k (h1 : k < nms.length) (h2 : k < (textsP n ks).length) (h3 : k < (fieldsP (Ty.text n) nms ks).length), (fieldsP (Ty.text n) nms ks)[k] = nms[k] ++ ⟨#[58, 32]⟩ ++ (textsP n ks)[k]) := fun k h1 h2 h3 => by
    have hk : k < ks.length := by rw [textsP_len] at h2; exact h2
    rw [fieldsP_get _ _ _ k h1 hk h3, textsP_get n ks k h2 hk]
  have HJS : Hid ((joinP ⟨#[44, 32]⟩ (fieldsP (Ty.text n) nms ks)).size ≤ 140737488355328) := by
    show _ ≤ _
    have h1 := joinP_size ⟨#[44, 32]⟩ (fieldsP (Ty.text n) nms ks)
    have h2 := kids_fields (n := n) nms ks
    have h3 := rowText_size n ks hbk2
    have e : (⟨#[44, 32]⟩ : ByteArray).size = 2 := rfl
    unfold textsP at h3
    rw [e] at h1
    omega
  have HNK : Hid (nms.length = ks.length) := hnk
  clear hp hT hcs hr hbk hbk2 ih hnk
  generalize fieldsP (Ty.text n) nms ks = F at *
  generalize textsP n ks = T at *
  have HK1 : Hid (∀ wx : World, Calls Tryd.prog 79 #[.agg #[.slice av ks.length capv]] wx fun e w' => e = .returned (.slice av ks.length capv) ∧ w' = wx.alloc (.cells #[.slice av ks.length capv] 82)) := fun wx => implKids av ks.length capv wx
  go_enter Tryd.func59, Tryd.ntmps59
  go_wp2_with fail
  refine (HK1.out _).mono ?_
  rintro e w1 ⟨rfl, rfl⟩
  have hB2 := hB1.alloc (by simp) (.cells #[.slice av ks.length capv] 82)
  go_wp2_with fail
  refine (HTX.out _ hB2).mono ?_
  rintro e w2 ⟨a, c, rfl, ho, hb2⟩
  have hb02 : Below w.heap.size w w2 := hB2.trans (hb2.mono (by simp; omega))
  have hrow : w2.ownsRow w.heap.size 9 1 (.slice a ks.length c) ks.length (strV (mixB F T 0)) := by rw [mixB_zero]; exact ownsRow_mono ho (by simp; omega)
  have D2 : w2.cell? ⟨w.heap.size, 1, none⟩ = some (.slice an nms.length cn) := by
    rw [hb2.cell (p := ⟨w.heap.size, 1, none⟩) (by simp; omega), cellOld 1 (by simp), cellNew 1 rfl]; rfl
  clear ho hb2 HTX HK1 hB1 hB2
  go_wp2_with fail
  go_loopw [13] (fun i wr => ∃ (k : Nat), k ≤ nms.length ∧ i = .int .i64 k ∧ wr.ownsRow w.heap.size 9 1 (.slice a ks.length c) ks.length (strV (mixB F T k)) ∧ Below w.heap.size w wr) (fun i _ => nms.length - (intOf i).toNat)
  case atStart => exact ⟨0, Nat.zero_le _, rfl, hrow, hb02⟩
  case round =>
    obtain ⟨k, hk, rfl, ho, hbe⟩ := hrel
    clear hrow hb02 D2
    have hzw : w.heap.size ≤ wr.heap.size := hbe.size
    by_cases hlt : k < nms.length
    · have hTl : k < T.length := by have h1 := HLF.out.2; have h2 := HNK.out; omega
      have hFl : k < F.length := by have h1 := HLF.out.1; omega
      have hkl : k < ks.length := by have h1 := HLF.out.2; omega
      obtain ⟨b, off, rfl, c0⟩ := HC.out k hlt
      have hb : b < w.heap.size := World.block_lt_of_cell? w ⟨b, off + k, none⟩ c0
      have C0 := (hbe.cell (p := ⟨b, off + k, none⟩) hb).trans c0
      obtain ⟨g, rfl, hgl, hgr⟩ : ∃ g, a = some ⟨g, 0, none⟩ ∧ w.heap.size ≤ g ∧ g < wr.heap.size := by
        rcases ho.2 with ⟨_, h0⟩ | ⟨g, cap, cur, hv, hg, hh, _⟩
        · omega
        · simp only [Value.slice.injEq, true_and] at hv
          exact ⟨g, hv.1, hg, (Array.getElem?_eq_some_iff.1 hh).1⟩
      have C1 : wr.cell? ⟨g, k, none⟩ = some (.string T[k]) := by rw [ho.cellAt k (by omega)]; exact mixB_get F T k HLF.out.1 hTl
      have HJ0 := join3 nms[k] ⟨#[58, 32]⟩ T[k] wr.heap.size wr rfl (by have := HNS.out k hlt; omega) (by decide) (by have := HTS.out k hTl; omega)
      have HFE : Hid (nms[k] ++ ⟨#[58, 32]⟩ ++ T[k] = F[k]) := (HFG.out k hlt hTl hFl).symm
      rw [HFE.out] at HJ0
      have HSET : Hid ((strV (mixB F T k)).set k (.string F[k]) = strV (mixB F T (k + 1))) := mixB_set F T k hFl hTl
      have HJ : Hid (type_of% HJ0) := HJ0
      clear c0 HJ0 HFE HC HNS HTS HLF HFG HJS HNK
      generalize nms[k] = x at *
      generalize T[k] = y at *
      generalize F[k] = z at *
      go_wp2_with fail
      refine HJ.out.mono ?_
      rintro e w3 ⟨rfl, hb3⟩
      have ho3 := kept_belowT ho hb3
      have hbe3 : Below w.heap.size w w3 := hbe.trans (hb3.mono hzw)
      have C13 : w3.cell? ⟨g, k, none⟩ = some (.string y) := (hb3.cell (p := ⟨g, k, none⟩) hgr).trans C1
      have F13 := ho3.frozenAt k
      obtain ⟨R1, _⟩ := ho3.stored k (.string z)
      rw [HSET.out] at R1
      have R2 : Below w.heap.size w (w3.setCell ⟨g, k, none⟩ (.string z)) := hbe3.setCell hgl _
      clear ho ho3 hbe3 C1 C0 HJ HSET
      go_wp2_with fail
      go_roundw
      case rel => exact ⟨k + 1, by omega, by go_num, R1, R2⟩
      case measure => simp [intOf]; omega
    · have hke : k = T.length := by have h1 := HLF.out.2; have h2 := HNK.out; omega
      have HJ0 : Calls Tryd.prog 80 #[.slice a ks.length c, .string ⟨#[44, 32]⟩] wr fun e w' => e = .returned (.string (joinP ⟨#[44, 32]⟩ F)) ∧ Below wr.heap.size wr w' := by
        rw [hke, mixB_all F T HLF.out.1] at ho
        exact stringsJoinOwn _ ks.length F ⟨#[44, 32]⟩ wr (by rw [HLF.out.1, HLF.out.2]) ho (by rw [HLF.out.1, HLF.out.2]; exact hlen) HJS.out
      have HJ : Hid (type_of% HJ0) := HJ0
      clear HJ0 ho hke HC HNS HTS HLF HFG HJS HNK
      go_wp2_with fail
      refine HJ.out.mono ?_
      rintro e w3 ⟨rfl, hb3⟩
      go_wp2_with fail
      go_ret
      exact ⟨rfl, hbe.trans (hb3.mono hzw)⟩

end Go.Proofs.YthfgdeaofghnkacDoor
