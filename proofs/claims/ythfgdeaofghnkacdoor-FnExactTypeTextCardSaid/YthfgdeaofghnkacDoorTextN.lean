/-
  The walk of impl.fnText, given textOf of the parts.
-/
import Derived.Test.YthfgdeaofghnkacDoorTextM
namespace Go.Proofs.YthfgdeaofghnkacDoor
open Go.RowKit Go.Shelf

theorem parts_init {w : World} {R : Value → Ty → Prop} {a : Option Addr} {l c : Nat} {ks : List Ty} {z : Ty} (h : PartsAt w R (.slice a l c) (ks ++ [z])) : ∃ b off u, a = some ⟨b, off, none⟩ ∧ l = ks.length + 1 ∧ ks.length + 1 ≤ c ∧ PartsAt w R (.slice a ks.length c) ks ∧ w.cell? ⟨b, off + ks.length, none⟩ = some u ∧ R u z := by
  rcases h with ⟨h, _⟩ | ⟨b, off, cap, e, hcap, hc⟩
  · simp at h
  · simp only [Value.slice.injEq, List.length_append, List.length_singleton] at e
    obtain ⟨rfl, rfl, rfl⟩ := e
    rw [List.length_append, List.length_singleton] at hcap
    obtain ⟨u, h1, h2⟩ := hc ks.length (by simp)
    have e1 : (ks ++ [z])[ks.length]'(by simp) = z := by simp
    rw [e1] at h2
    refine ⟨b, off, u, rfl, rfl, hcap, .inr ⟨b, off, c, rfl, by omega, fun j hj => ?_⟩, h1, h2⟩
    obtain ⟨u', g1, g2⟩ := hc j (by rw [List.length_append, List.length_singleton]; omega)
    rw [List.getElem_append_left hj] at g2
    exact ⟨u', g1, g2⟩

set_option maxHeartbeats 1600000 in
set_option maxRecDepth 100000 in
theorem implFnText (n : Nat) (ih : TextOfAt n) (a : Option Addr) (l c : Nat) (ks : List Ty) (z : Ty) (d : Int) (w : World) (hp : PartsAt w (FormAt w n) (.slice a l c) (ks ++ [z])) (hr : ∀ q ∈ ks ++ [z], Right n q d) (hbk : rowBulk n (ks ++ [z]) ≤ 1048576) :
    Calls Tryd.prog 60 #[.agg #[.slice a l c]] w fun e w' => e = .returned (.string (⟨#[40]⟩ ++ joinP ⟨#[44, 32]⟩ (textsP n ks) ++ ⟨#[41, 32, 45, 62, 32]⟩ ++ roundP 7 z (Ty.text n z))) ∧ Below w.heap.size w w' := by
  obtain ⟨b, off, u, rfl, rfl, hcap, hpi, hu, hfz⟩ := parts_init hp
  obtain ⟨T, x, rfl⟩ := form_iface hfz
  have hb : b < w.heap.size := World.block_lt_of_cell? w _ hu
  have hbz : Ty.bulk n z ≤ 1048576 ∧ rowBulk n ks ≤ 1048576 := by
    unfold rowBulk at hbk ⊢
    rw [List.map_append, List.sum_append, List.length_append] at hbk
    simp at hbk
    omega
  have hlen : ks.length ≤ 1048576 := by have := hbz.2; unfold rowBulk at this; omega
  have hrz : Right n z d := hr z (by simp)
  have hri : ∀ q ∈ ks, Right n q d := fun q hq => hr q (List.mem_append_left _ hq)
  obtain ⟨ax, lx, cx, hAS⟩ := assertUnion hfz (right_kind hrz)
  have HTX : Hid (∀ wx : World, Below w.heap.size w wx → Calls Tryd.prog 74 #[.slice (some ⟨b, off, none⟩) ks.length c] wx fun e w' => ∃ (a : Option Addr) (c : Nat), e = .returned (.slice a ks.length c) ∧ w'.ownsRow wx.heap.size 9 1 (.slice a ks.length c) ks.length (strV (textsP n ks)) ∧ Below wx.heap.size wx w') := fun wx hx => implTexts n ih _ ks d wx (hpi.below hx fun u t _ h => h.below hx) hri hbz.2
  have HTO : Hid (∀ wx : World, Below w.heap.size w wx → Calls Tryd.prog 44 #[.iface T x] wx fun e w' => e = .returned (.string (Ty.text n z)) ∧ Below wx.heap.size wx w') := fun wx hx => ih _ z d wx (hfz.below hx) hrz hbz.1
  have hzs : (Ty.text n z).size ≤ 100000000 := by have := text_size n z; omega
  have hjs : (joinP ⟨#[44, 32]⟩ (textsP n ks)).size ≤ 200000000 := by
    have h1 := joinP_size ⟨#[44, 32]⟩ (textsP n ks)
    have h3 := rowText_size n ks hbz.2
    have e : (⟨#[44, 32]⟩ : ByteArray).size = 2 := rfl
    rw [e, textsP_len] at h1
    omega
  have HJO : Hid (∀ (a : Option Addr) (c' B : Nat) (wx : World), wx.ownsRow B 9 1 (.slice a ks.length c') ks.length (strV (textsP n ks)) → Calls Tryd.prog 80 #[.slice a ks.length c', .string ⟨#[44, 32]⟩] wx fun e w' => e = .returned (.string (joinP ⟨#[44, 32]⟩ (textsP n ks))) ∧ Below wx.heap.size wx w') := fun a c' B wx ho => stringsJoinOwn _ ks.length (textsP n ks) _ wx (textsP_len n ks).symm ho (by rw [textsP_len]; exact hlen) (by omega)
  have hRP : (z.kind = 7 → roundP 7 z (Ty.text n z) = ⟨#[40]⟩ ++ Ty.text n z ++ ⟨#[41]⟩) ∧ (z.kind ≠ 7 → roundP 7 z (Ty.text n z) = Ty.text n z) := ⟨fun c => if_pos c, fun c => if_neg c⟩
  have HRP : Hid (type_of% hRP) := hRP
  have hB1 : Below w.heap.size w (w.alloc (.cells #[.slice (some ⟨b, off, none⟩) (ks.length + 1) c] 93)) := (Below.refl _ _).alloc (Nat.le_refl _) _
  have HK1 : Hid (∀ wx : World, Calls Tryd.prog 79 #[.agg #[.slice (some ⟨b, off, none⟩) (ks.length + 1) c]] wx fun e w' => e = .returned (.slice (some ⟨b, off, none⟩) (ks.length + 1) c) ∧ w' = wx.alloc (.cells #[.slice (some ⟨b, off, none⟩) (ks.length + 1) c] 82)) := fun wx => implKids _ _ c wx
  clear hp hpi hr hri hrz hbk hbz ih hRP hfz
  generalize textsP n ks = TT at *
  generalize Ty.text n z = tz at *
  generalize roundP 7 z tz = rz at *
  generalize hJ : joinP ⟨#[44, 32]⟩ TT = jt at *
  clear hJ
  generalize ks.length = m at *
  go_enter Tryd.func60, Tryd.ntmps60
  go_wp2_with fail
  refine (HK1.out _).mono ?_
  rintro e w1 ⟨rfl, rfl⟩
  have hB2 := hB1.alloc (by simp) (.cells #[.slice (some ⟨b, off, none⟩) (m + 1) c] 82)
  go_wp2_with fail
  refine (HTX.out _ hB2).mono ?_
  rintro e w2 ⟨aT, cT, rfl, ho, hb2⟩
  have hb02 : Below w.heap.size w w2 := hB2.trans (hb2.mono (by simp; omega))
  have HJ := HJO.out aT cT _ w2 ho
  clear ho hb2 HTX HK1 hB1 hB2 HJO
  have HJ2 : Hid (type_of% HJ) := HJ
  clear HJ
  go_wp2_with fail
  refine HJ2.out.mono ?_
  rintro e w3 ⟨rfl, hb3⟩
  have hb03 : Below w.heap.size w w3 := hb02.trans (hb3.mono hb02.size)
  have C3 := (hb03.cell (p := ⟨b, off + m, none⟩) hb).trans hu
  clear hb02 hb3 HJ2
  go_wp2_with fail
  refine (HTO.out _ hb03).mono ?_
  rintro e w4 ⟨rfl, hb4⟩
  have hb04 : Below w.heap.size w w4 := hb03.trans (hb4.mono hb03.size)
  have C4 := (hb04.cell (p := ⟨b, off + m, none⟩) hb).trans hu
  have hz4 : w.heap.size ≤ w4.heap.size := hb04.size
  have hal : Below w.heap.size w (w4.alloc (.cells #[.slice ax lx cx] 94)) := hb04.alloc hz4 _
  clear hb03 hb4 C3 HTO
  by_cases h7 : z.kind = 7
  · rw [decide_eq_true h7] at hAS
    have HE := HRP.out.1 h7
    have HJ3 := join3 ⟨#[40]⟩ tz ⟨#[41]⟩ (w4.heap.size + 1) (w4.alloc (.cells #[.slice ax lx cx] 94)) (by simp) (by decide) (by omega) (by decide)
    rw [← HE] at HJ3
    have hrs : rz.size ≤ 200000000 := by
      rw [HE]
      simp only [ByteArray.size_append]
      have e1 : (⟨#[40]⟩ : ByteArray).size = 1 := rfl
      have e2 : (⟨#[41]⟩ : ByteArray).size = 1 := rfl
      omega
    have HJ4 : Hid (type_of% HJ3) := HJ3
    clear HE HJ3 HRP h7
    go_wp2_with fail
    refine HJ4.out.mono ?_
    rintro e w5 ⟨rfl, hb5⟩
    have hb05 : Below w.heap.size w w5 := hal.trans (hb5.mono (by simp; omega))
    have HJ5 : Hid (type_of% (join4 ⟨#[40]⟩ jt ⟨#[41, 32, 45, 62, 32]⟩ rz w5.heap.size w5 rfl (by decide) (by omega) (by decide) (by omega))) := join4 ⟨#[40]⟩ jt ⟨#[41, 32, 45, 62, 32]⟩ rz w5.heap.size w5 rfl (by decide) (by omega) (by decide) (by omega)
    clear hal hb5 HJ4
    go_wp2_with fail
    refine HJ5.out.mono ?_
    rintro e w6 ⟨rfl, hb6⟩
    go_wp2_with fail
    go_ret
    exact ⟨rfl, hb05.trans (hb6.mono hb05.size)⟩
  · rw [decide_eq_false h7] at hAS
    have HE := HRP.out.2 h7
    subst HE
    have HJ5 : Hid (type_of% (join4 ⟨#[40]⟩ jt ⟨#[41, 32, 45, 62, 32]⟩ rz (w4.heap.size + 1) (w4.alloc (.cells #[.slice ax lx cx] 94)) (by simp) (by decide) (by omega) (by decide) (by omega))) := join4 ⟨#[40]⟩ jt ⟨#[41, 32, 45, 62, 32]⟩ rz (w4.heap.size + 1) (w4.alloc (.cells #[.slice ax lx cx] 94)) (by simp) (by decide) (by omega) (by decide) (by omega)
    clear HRP h7
    go_wp2_with fail
    refine HJ5.out.mono ?_
    rintro e w6 ⟨rfl, hb6⟩
    go_wp2_with fail
    go_ret
    exact ⟨rfl, hal.trans (hb6.mono (by simp; omega))⟩

end Go.Proofs.YthfgdeaofghnkacDoor
